/-
  Every op leaves a graph right that was right.
-/
import Derived.Test.YtidmfdbckpficaaM21
import Derived.Maps.Keyed
import Derived.Maps.OwnOps
import Derived.WalkKit
namespace Go.Proofs.Ytidmfdbckpficaa
open Go.RowKit
set_option linter.unusedVariables false
set_option linter.unusedSimpArgs false

theorem ndE_iff (n : Nd) : ndE none n = 0 ↔ idOk n.id = true ∧ nErr n.kd.data.toList = 0 ∧ rErr n.rc = 0 := by
  unfold ndE
  rw [if_neg (show ¬ n.low none = true by simp [Nd.low])]
  by_cases a : idOk n.id = true
  · rw [if_pos a]
    by_cases b : nErr n.kd.data.toList = 0
    · rw [if_pos b]; exact ⟨fun h => ⟨a, b, h⟩, fun h => h.2.2⟩
    · rw [if_neg b]; exact ⟨fun h => absurd h b, fun h => absurd h.2.1 b⟩
  · rw [if_neg a]; exact ⟨fun h => by omega, fun h => absurd h.1 a⟩
theorem lo_take {id : Int} {M : List Nd} (h : SrtN M) {x : Nd} (hx : x ∈ M.take (loN id M)) : x.id < id := by
  obtain ⟨i, hi⟩ := List.getElem?_of_mem hx
  have hl := (List.getElem?_eq_some_iff.1 hi).1
  rw [List.length_take] at hl
  rw [List.getElem?_take] at hi
  split at hi
  · exact (loN_spec id h i x hi).1 (by omega)
  · cases hi
theorem lo_drop {id : Int} {M : List Nd} (h : SrtN M) {x : Nd} (hx : x ∈ M.drop (loN id M)) : id ≤ x.id := by
  obtain ⟨i, hi⟩ := List.getElem?_of_mem hx
  rw [List.getElem?_drop] at hi
  have := loN_spec id h _ x hi
  have h2 : ¬ x.id < id := fun h => absurd (this.2 h) (by omega)
  omega
theorem fnd_iff {id : Int} {M : List Nd} (h : SrtN M) : fndN id M = true ↔ ∃ n ∈ M, n.id = id := by
  constructor
  · intro hf
    have hl := fndN_lt hf
    refine ⟨M[loN id M], List.getElem_mem hl, ?_⟩
    unfold fndN at hf
    rw [List.getElem?_eq_getElem hl] at hf
    simpa using hf
  · rintro ⟨n, hn, rfl⟩
    obtain ⟨i, hi⟩ := List.getElem?_of_mem hn
    have h1 : ¬ i < loN n.id M := fun h' => absurd ((loN_spec n.id h i n hi).1 h') (Int.lt_irrefl _)
    have hil := (List.getElem?_eq_some_iff.1 hi).1
    have h2 : i = loN n.id M := by
      rcases Nat.lt_or_ge (loN n.id M) i with h3 | h3
      · exfalso
        have hlt : loN n.id M < M.length := by omega
        obtain ⟨h4, h5⟩ := List.getElem?_eq_some_iff.1 hi
        have h6 : (M[loN n.id M]).id < (M[i]).id := List.pairwise_iff_getElem.1 h _ _ hlt hil h3
        rw [h5] at h6
        have := (loN_spec n.id h (loN n.id M) _ (List.getElem?_eq_getElem hlt)).2 h6
        omega
      · omega
    unfold fndN
    rw [← h2, hi]
    simp
theorem srt_ins {M : List Nd} {n : Nd} (h : SrtN M) (hf : fndN n.id M = false) : SrtN (M.take (loN n.id M) ++ n :: M.drop (loN n.id M)) := by
  have hne : ∀ x ∈ M, x.id ≠ n.id := fun x hx e => by
    have := (fnd_iff h).2 ⟨x, hx, e⟩
    rw [hf] at this; cases this
  have hs : (M.take (loN n.id M) ++ M.drop (loN n.id M)).Pairwise fun a b => a.id < b.id := by rw [List.take_append_drop]; exact h
  obtain ⟨a1, a2, a3⟩ := List.pairwise_append.1 hs
  refine List.pairwise_append.2 ⟨a1, List.pairwise_cons.2 ⟨fun x hx => ?_, a2⟩, fun x hx y hy => ?_⟩
  · have := lo_drop h hx
    have := hne x (List.mem_of_mem_drop hx)
    omega
  · rcases List.mem_cons.1 hy with rfl | hy
    · exact lo_take h hx
    · exact a3 x hx y hy
theorem loT_take {t : Te} {T : List Te} (h : SrtT T) {x : Te} (hx : x ∈ T.take (loT t T)) : tCmp x t < 0 := by
  obtain ⟨i, hi⟩ := List.getElem?_of_mem hx
  have hl := (List.getElem?_eq_some_iff.1 hi).1
  rw [List.length_take] at hl
  rw [List.getElem?_take] at hi
  split at hi
  · exact (loT_spec t h i x hi).1 (by omega)
  · cases hi
theorem loT_drop {t : Te} {T : List Te} (h : SrtT T) {x : Te} (hx : x ∈ T.drop (loT t T)) : ¬ tCmp x t < 0 := by
  obtain ⟨i, hi⟩ := List.getElem?_of_mem hx
  rw [List.getElem?_drop] at hi
  exact fun h' => absurd ((loT_spec t h _ x hi).2 h') (by omega)
theorem fndT_iff {t : Te} {T : List Te} (h : SrtT T) : fndT t T = true ↔ t ∈ T := by
  constructor
  · intro hf
    have hl := fndT_lt hf
    unfold fndT at hf
    rw [List.getElem?_eq_getElem hl] at hf
    have := (tCmp_zero _ _).1 (by simpa using hf)
    rw [← this]
    exact List.getElem_mem hl
  · intro hn
    obtain ⟨i, hi⟩ := List.getElem?_of_mem hn
    have hz : tCmp t t = 0 := (tCmp_zero t t).2 rfl
    have h1 : ¬ i < loT t T := fun h' => by have := (loT_spec t h i t hi).1 h'; omega
    have hil := (List.getElem?_eq_some_iff.1 hi).1
    have h2 : i = loT t T := by
      rcases Nat.lt_or_ge (loT t T) i with h3 | h3
      · exfalso
        have hlt : loT t T < T.length := by omega
        obtain ⟨h4, h5⟩ := List.getElem?_eq_some_iff.1 hi
        have h6 : tCmp (T[loT t T]) (T[i]) < 0 := List.pairwise_iff_getElem.1 h _ _ hlt hil h3
        rw [h5] at h6
        have := (loT_spec t h (loT t T) _ (List.getElem?_eq_getElem hlt)).2 h6
        omega
      · omega
    unfold fndT
    rw [← h2, hi]
    simp [hz]
theorem srtT_ins {T : List Te} {t : Te} (h : SrtT T) (hf : fndT t T = false) : SrtT (bindT t T) := by
  have hne : t ∉ T := fun hx => by
    have := (fndT_iff h).2 hx
    rw [hf] at this; cases this
  have hs : (T.take (loT t T) ++ T.drop (loT t T)).Pairwise fun a b => tCmp a b < 0 := by rw [List.take_append_drop]; exact h
  obtain ⟨a1, a2, a3⟩ := List.pairwise_append.1 hs
  refine List.pairwise_append.2 ⟨a1, List.pairwise_cons.2 ⟨fun x hx => ?_, a2⟩, fun x hx y hy => ?_⟩
  · have h1 := loT_drop h hx
    have h2 : ¬ tCmp x t = 0 := fun e => hne (by rw [← (tCmp_zero _ _).1 e]; exact List.mem_of_mem_drop hx)
    have := tCmp_anti x t
    omega
  · rcases List.mem_cons.1 hy with rfl | hy
    · exact loT_take h hx
    · exact a3 x hx y hy
theorem put_mem {id : Int} {M : List Nd} {r : List Pr} {x : Nd} (hx : x ∈ putR id M r) : x ∈ M ∨ ∃ n ∈ M, x = ⟨n.id, n.kd, .nilIface, r⟩ := by
  unfold putR at hx
  cases h : M[loN id M]? with
  | none => rw [h] at hx; exact .inl hx
  | some n =>
    rw [h] at hx
    rcases List.mem_or_eq_of_mem_set hx with h1 | h1
    · exact .inl h1
    · exact .inr ⟨n, List.mem_of_getElem? h, h1⟩
theorem put_ids (id : Int) (M : List Nd) (r : List Pr) : (putR id M r).map (·.id) = M.map (·.id) := by
  unfold putR
  cases h : M[loN id M]? with
  | none => rfl
  | some n =>
    simp only
    rw [List.map_set]
    exact set_same (by rw [List.getElem?_map, h]; rfl)
theorem srt_ids {M M' : List Nd} (h : SrtN M) (he : M'.map (·.id) = M.map (·.id)) : SrtN M' := by
  have h1 : (M.map (·.id)).Pairwise (· < ·) := List.pairwise_map.2 h
  rw [← he] at h1
  exact List.pairwise_map.1 h1
theorem rcAt_mem {id : Int} {M : List Nd} (hf : fndN id M = true) : ∃ n ∈ M, rcAt id M = n.rc := by
  have hl := fndN_lt hf
  refine ⟨M[loN id M], List.getElem_mem hl, ?_⟩
  unfold rcAt
  rw [List.getElem?_eq_getElem hl]
theorem un_sub (nm : List UInt8) (L : List Pr) : List.Sublist (unL nm L) L := by
  unfold unL
  have : L.take (idxP nm L 0).toNat ++ L.drop ((idxP nm L 0).toNat + 1) = L.eraseIdx (idxP nm L 0).toNat := (List.eraseIdx_eq_take_drop_succ ..).symm
  rw [this]
  exact List.eraseIdx_sublist _ _
theorem rErr_sub {L L' : List Pr} (h : rErr L = 0) (hs : List.Sublist L' L) : rErr L' = 0 := by
  obtain ⟨⟨h1, h2⟩, h3⟩ := (rErr_srt L).1 h
  exact (rErr_srt L').2 ⟨⟨fun p hp => h1 p (hs.mem hp), h2.sublist hs⟩, Nat.le_trans hs.length_le h3⟩
theorem gErr_put {id : Int} {M : List Nd} {T : List Te} {r : List Pr} (h : gErr M T = 0) (hr : rErr r = 0) : gErr (putR id M r) T = 0 := by
  obtain ⟨⟨h1, a1, a2⟩, hT⟩ := (gErr_iff M T).1 h
  refine (gErr_iff _ T).2 ⟨⟨?_, srt_ids a1 (put_ids id M r), fun x hx => ?_⟩, hT⟩
  · have := congrArg List.length (put_ids id M r)
    simp only [List.length_map] at this
    omega
  · rcases put_mem hx with h' | ⟨n, hn, rfl⟩
    · exact a2 x h'
    · obtain ⟨b1, b2, _⟩ := (ndE_iff n).1 (a2 n hn)
      exact (ndE_iff _).2 ⟨b1, b2, hr⟩
theorem sErr_zero {p : Pr} {L : List Pr} (h : rsErr p L = 0) : rErr L = 0 ∧ rErr [p] = 0 ∧ (ins p L).length ≤ 8 := by
  unfold rsErr at h
  by_cases h1 : rErr L = 0
  · rw [if_pos h1] at h
    by_cases h2 : rErr [p] = 0
    · rw [if_pos h2] at h
      by_cases h3 : 8 < (ins p L).length
      · rw [if_pos h3] at h; omega
      · exact ⟨h1, h2, by omega⟩
    · rw [if_neg h2] at h; exact absurd h h2
  · rw [if_neg h1] at h; exact absurd h h1
theorem one_ok {p : Pr} (h : rErr [p] = 0) : p.ok := ((rErr_srt [p]).1 h).1.1 p (by simp)
theorem sErr_ins {p : Pr} {L : List Pr} (h : rsErr p L = 0) : rErr (ins p L) = 0 := by
  obtain ⟨h1, h2, h3⟩ := sErr_zero h
  exact (rErr_srt _).2 ⟨ins_srt ((rErr_srt L).1 h1).1 (one_ok h2), h3⟩
theorem gErr_one {n : Nd} (h : gErr [n] [] = 0) : ndE none n = 0 := ((gErr_iff _ _).1 h).1.2.2 n (by simp)
theorem gErr_oneT {t : Te} (h : gErr [] [t] = 0) : teE none t = 0 := ((gErr_iff _ _).1 h).2.2.2 t (by simp)
theorem newE_zero {n : Nd} {M : List Nd} (h : newE n M = 0) : gErr [n] [] = 0 ∧ fndN n.id M = false ∧ ¬ M.length = 60 := by
  unfold newE at h
  by_cases h1 : gErr [n] [] = 0
  · rw [if_pos h1] at h
    by_cases h2 : fndN n.id M = true
    · rw [if_pos h2] at h; omega
    · rw [if_neg h2] at h
      by_cases h3 : M.length = 60
      · rw [if_pos h3] at h; omega
      · exact ⟨h1, by simpa using h2, h3⟩
  · rw [if_neg h1] at h; exact absurd h h1
theorem bindE_zero {t : Te} {T : List Te} (h : bindE t T = 0) : gErr [] [t] = 0 ∧ fndT t T = false ∧ ¬ T.length = 120 := by
  unfold bindE at h
  by_cases h1 : gErr [] [t] = 0
  · rw [if_pos h1] at h
    by_cases h2 : fndT t T = true
    · rw [if_pos h2] at h; omega
    · rw [if_neg h2] at h
      by_cases h3 : T.length = 120
      · rw [if_pos h3] at h; omega
      · exact ⟨h1, by simpa using h2, h3⟩
  · rw [if_neg h1] at h; exact absurd h h1
theorem ins_len3 {α : Type} (M : List α) (k : Nat) (hk : k ≤ M.length) (x : α) : (M.take k ++ x :: M.drop k).length = M.length + 1 := by simp; omega
theorem mem_ins3 {α : Type} {M : List α} {k : Nat} {x y : α} (h : y ∈ M.take k ++ x :: M.drop k) : y ∈ M ∨ y = x := by
  rcases List.mem_append.1 h with h | h
  · exact .inl (List.mem_of_mem_take h)
  · rcases List.mem_cons.1 h with h | h
    · exact .inr h
    · exact .inl (List.mem_of_mem_drop h)
/-- Every op leaves a graph right. -/
theorem keeps_all (o : Opx) : KeepsR opS o := by
  intro M T h he
  have he : opE o M T = 0 := he
  show gErr (opM o M T) (opT o M T) = 0
  obtain ⟨⟨l1, a1, a2⟩, ⟨l2, b1, b2⟩⟩ := (gErr_iff M T).1 h
  unfold opE at he
  unfold opM opT
  by_cases h1 : o.wh = 1
  · rw [if_pos h1] at he ⊢
    rw [if_neg (by omega), if_neg (by omega), if_neg (by omega)]
    obtain ⟨e1, e2, e3⟩ := newE_zero he
    have hs : SrtN (newM o.nd M) := srt_ins (n := o.nd.c) a1 e2
    refine (gErr_iff _ _).2 ⟨⟨?_, hs, fun x hx => ?_⟩, ⟨l2, b1, b2⟩⟩
    · unfold newM; rw [ins_len3 _ _ (loN_le _ _)]; omega
    · rcases mem_ins3 hx with h' | rfl
      · exact a2 x h'
      · have := (ndE_iff _).1 (gErr_one e1)
        exact (ndE_iff _).2 this
  rw [if_neg h1] at he ⊢
  by_cases h2 : o.wh = 2
  · rw [if_pos h2, if_pos h2]
    exact gErr_sub h (List.eraseIdx_sublist M _) List.filter_sublist
  rw [if_neg h2] at he ⊢
  rw [if_neg h2]
  by_cases h3 : o.wh = 3
  · rw [if_pos h3] at he ⊢
    rw [if_neg (by omega), if_neg (by omega)]
    by_cases hf : fndN o.nd.id M = true
    · rw [if_pos hf] at he
      exact gErr_put h (sErr_ins he)
    · rw [if_neg hf] at he; omega
  rw [if_neg h3] at he ⊢
  by_cases h4 : o.wh = 4
  · rw [if_pos h4] at he ⊢
    rw [if_neg (by omega), if_neg (by omega)]
    by_cases hf : fndN o.nd.id M = true
    · obtain ⟨n, hn, e⟩ := rcAt_mem hf
      exact gErr_put h (rErr_sub (by rw [e]; exact ((ndE_iff n).1 (a2 n hn)).2.2) (un_sub _ _))
    · rw [if_neg hf] at he; omega
  rw [if_neg h4] at he ⊢
  by_cases h5 : o.wh = 5
  · rw [if_pos h5] at he ⊢
    obtain ⟨e1, e2, e3⟩ := bindE_zero he
    refine (gErr_iff _ _).2 ⟨⟨l1, a1, a2⟩, ⟨?_, srtT_ins b1 e2, fun x hx => ?_⟩⟩
    · unfold bindT; rw [ins_len3 _ _ (loT_le _ _)]; omega
    · rcases mem_ins3 hx with h' | rfl
      · exact b2 x h'
      · exact gErr_oneT e1
  rw [if_neg h5] at he ⊢
  by_cases h6 : o.wh = 6
  · rw [if_pos h6]
    exact gErr_sub h (List.Sublist.refl _) (List.eraseIdx_sublist T _)
  rw [if_neg h6]
  exact h
end Go.Proofs.Ytidmfdbckpficaa

/-
  Maps that the call has made, of any keys and any elements: what lies in them as a function of the key; make, look-up, store, and the entry of 'm[k]++'.
-/
namespace Go.Proofs.Ytidmfdbckpficaa
open Go.RowKit
open Go.MapKept Go.ChangeMaps
open Go.Maps (Keyed)
set_option linter.unusedVariables false
set_option linter.unusedSimpArgs false

section
variable {κ : Type}

/-- One more. -/
def upd [DecidableEq κ] {β : Type} (F : κ → Option β) (x : κ) (v : β) : κ → Option β := fun y => if y = x then some v else F y

/-- Block b is a map with the entries of F. -/
def OwnM (w : World) (P : Program) (k : TypeId) (enc : κ → Value) (b : Nat) (F : κ → Option Value) : Prop :=
  ∃ es clock, w.heap[b]? = some (.map es clock) ∧ Stamped es clock ∧ (∀ e ∈ es.toList, ∃ x l, e.key = enc x ∧ keyOf P k e.key = some l ∧ F x = some e.val) ∧ (∀ x v, F x = some v → ∃ e ∈ es.toList, e.key = enc x ∧ e.val = v)
/-- And the entry of x bears the stamp n. -/
def OwnE (w : World) (P : Program) (k : TypeId) (enc : κ → Value) (b : Nat) (F : κ → Option Value) (x : κ) (n : Nat) : Prop :=
  ∃ es clock, w.heap[b]? = some (.map es clock) ∧ Stamped es clock ∧ (∀ e ∈ es.toList, ∃ x l, e.key = enc x ∧ keyOf P k e.key = some l ∧ F x = some e.val) ∧ (∀ x v, F x = some v → ∃ e ∈ es.toList, e.key = enc x ∧ e.val = v) ∧ ∃ e ∈ es.toList, e.key = enc x ∧ e.born = n

variable {w : World} {P : Program} {k : TypeId} {enc : κ → Value} {b : Nat} {F : κ → Option Value}

theorem OwnE.m {x : κ} {n : Nat} (h : OwnE w P k enc b F x n) : OwnM w P k enc b F := by
  obtain ⟨es, c, h1, h2, h3, h4, _⟩ := h
  exact ⟨es, c, h1, h2, h3, h4⟩
theorem OwnM.lt (h : OwnM w P k enc b F) : b < w.heap.size := by
  obtain ⟨es, c, h1, _⟩ := h
  exact (Array.getElem?_eq_some_iff.1 h1).1
theorem OwnM.of_block {w' : World} (h : OwnM w P k enc b F) (hb : w'.heap[b]? = w.heap[b]?) : OwnM w' P k enc b F := by
  obtain ⟨es, c, h1, h2⟩ := h
  exact ⟨es, c, hb.trans h1, h2⟩
theorem OwnE.of_block {w' : World} {x : κ} {n : Nat} (h : OwnE w P k enc b F x n) (hb : w'.heap[b]? = w.heap[b]?) : OwnE w' P k enc b F x n := by
  obtain ⟨es, c, h1, h2⟩ := h
  exact ⟨es, c, hb.trans h1, h2⟩
theorem OwnM.drew (h : OwnM w P k enc b F) : OwnM w.drew P k enc b F := h
/-- A map has no cells. -/
theorem OwnM.no_cell (h : OwnM w P k enc b F) (i : Nat) (s : Option Nat) : ∀ a : Addr, a.block = b → w.cell? a = none := by
  obtain ⟨es, c, h1, _⟩ := h
  intro a ha
  subst ha
  simp [World.cell?, h1]
theorem OwnM.made (w : World) : OwnM (w.alloc (.map #[] 0)) P k enc w.heap.size (fun _ => none) :=
  ⟨#[], 0, (MapKept.heap_alloc w _).1, stamped_empty 0, by simp, by simp⟩

theorem OwnM.look (h : OwnM w P k enc b F) (K : Keyed P k) (hinj : ∀ x y, enc x = enc y → x = y) {t e : TypeId} (ht : P.underlying t = some (.map k e)) {z : Value} (hz : (zeroValue e).run P w = .ok z w) {x : κ} {l : Lit} (hk : keyOf P k (enc x) = some l) (c : Bool) :
    (Instr.lookup t (.map (some b)) (enc x) c).run P w = .ok (if c then .tuple #[(F x).getD z, .bool (F x).isSome] else (F x).getD z) w := by
  obtain ⟨es, clock, hb, hs, h1, h2⟩ := h
  rcases K.find w hk es.toList (fun e he => by obtain ⟨_, l, _, h, _⟩ := h1 e he; exact ⟨l, h⟩) with ⟨f1, f2⟩ | ⟨j, e0, f1, f2, f3⟩
  · have hF : F x = none := by
      cases hx : F x with
      | none => rfl
      | some v => obtain ⟨e, he, hke, _⟩ := h2 x v hx; exact absurd hke (f2 e he)
    rw [hF]
    simp [Instr.lookup, run_underlying ht, MapKept.run_getObj_map hb, K.check w _ hk, f1, hz, Result.andThen]
  · obtain ⟨y, l', g1, g2, g3⟩ := h1 e0 (List.mem_of_getElem? f2)
    obtain rfl : y = x := hinj _ _ (g1.symm.trans f3)
    rw [g3]
    simp [Instr.lookup, run_underlying ht, MapKept.run_getObj_map hb, K.check w _ hk, f1, Result.andThen]

theorem key_once {es : Array MapEntry} {clock : Nat} (hs : Stamped es clock) {e e' : MapEntry} (he : e ∈ es.toList) (he' : e' ∈ es.toList) (h : e.key = e'.key) : e = e' := by
  have hp := ((stamped_iff es clock).1 hs).2.2
  obtain ⟨i, hi, rfl⟩ := List.getElem_of_mem he
  obtain ⟨j, hj, rfl⟩ := List.getElem_of_mem he'
  by_cases hij : i = j
  · subst hij; rfl
  · rw [List.pairwise_iff_getElem] at hp
    rcases Nat.lt_or_gt_of_ne hij with h1 | h1
    · exact absurd h (hp i j hi hj h1)
    · exact absurd h.symm (hp j i hj hi h1)
theorem mem_modify {es : Array MapEntry} {j : Nat} {e0 : MapEntry} (f : MapEntry → MapEntry) (h : es.toList[j]? = some e0) (x : MapEntry) :
    x ∈ (es.modify j f).toList → x = f e0 ∨ ∃ i, i ≠ j ∧ es.toList[i]? = some x := by
  intro hx
  rw [Array.toList_modify, modify_eq_set _ _ _ _ h] at hx
  obtain ⟨i, hi, ex⟩ := List.getElem_of_mem hx
  rw [List.getElem_set] at ex
  split at ex
  · exact .inl ex.symm
  · rename_i hne
    have hi' : i < es.toList.length := by simpa using hi
    exact .inr ⟨i, fun e => hne e.symm, by rw [List.getElem?_eq_getElem hi', ex]⟩
theorem mem_modify_at {es : Array MapEntry} {j : Nat} {e0 : MapEntry} (f : MapEntry → MapEntry) (h : es.toList[j]? = some e0) : f e0 ∈ (es.modify j f).toList := by
  rw [Array.toList_modify, modify_eq_set _ _ _ _ h]
  have hj := (List.getElem?_eq_some_iff.1 h).1
  exact List.mem_iff_getElem.2 ⟨j, by simpa using hj, by simp⟩
theorem mem_modify_other {es : Array MapEntry} {j : Nat} {e0 : MapEntry} (f : MapEntry → MapEntry) (h : es.toList[j]? = some e0) {e : MapEntry} (he : e ∈ es.toList) (hne : e ≠ e0) : e ∈ (es.modify j f).toList := by
  rw [Array.toList_modify, modify_eq_set _ _ _ _ h]
  obtain ⟨i, hi, rfl⟩ := List.getElem_of_mem he
  have hij : ¬ j = i := fun e => by
    subst e
    rw [List.getElem?_eq_getElem hi] at h
    exact hne (Option.some.inj h)
  exact List.mem_iff_getElem.2 ⟨i, by simpa using hi, by rw [List.getElem_set, if_neg hij]⟩

/-- An entry's element is turned: what the map is then. -/
theorem own_modify [DecidableEq κ] {es : Array MapEntry} {clock : Nat} (hs : Stamped es clock) (h1 : ∀ e ∈ es.toList, ∃ x l, e.key = enc x ∧ keyOf P k e.key = some l ∧ F x = some e.val) (h2 : ∀ x v, F x = some v → ∃ e ∈ es.toList, e.key = enc x ∧ e.val = v) (hinj : ∀ x y, enc x = enc y → x = y)
    {j : Nat} {e0 : MapEntry} (hj : es.toList[j]? = some e0) {x : κ} (hx : e0.key = enc x) (f : MapEntry → MapEntry) (hfk : (f e0).key = e0.key) {v : Value} (hfv : (f e0).val = v) :
    (∀ e ∈ (es.modify j f).toList, ∃ y l, e.key = enc y ∧ keyOf P k e.key = some l ∧ upd F x v y = some e.val) ∧ (∀ y u, upd F x v y = some u → ∃ e ∈ (es.modify j f).toList, e.key = enc y ∧ e.val = u) := by
  have hm0 := List.mem_of_getElem? hj
  constructor
  · intro e he
    rcases mem_modify f hj e he with rfl | ⟨i, hij, hi⟩
    · obtain ⟨y, l, g1, g2, g3⟩ := h1 e0 hm0
      refine ⟨x, l, by rw [hfk, hx], by rw [hfk]; exact g2, ?_⟩
      unfold upd; rw [if_pos rfl, hfv]
    · obtain ⟨y, l, g1, g2, g3⟩ := h1 e (List.mem_of_getElem? hi)
      refine ⟨y, l, g1, g2, ?_⟩
      have hyx : ¬ y = x := fun h => by
        subst h
        have hp := ((stamped_iff es clock).1 hs).2.2
        rw [List.pairwise_iff_getElem] at hp
        obtain ⟨hil, e1⟩ := List.getElem?_eq_some_iff.1 hi
        obtain ⟨hjl, e2⟩ := List.getElem?_eq_some_iff.1 hj
        have ek : es.toList[i].key = es.toList[j].key := by rw [e1, e2, g1, hx]
        rcases Nat.lt_or_gt_of_ne hij with h | h
        · exact hp i j hil hjl h ek
        · exact hp j i hjl hil h ek.symm
      unfold upd; rw [if_neg hyx]; exact g3
  · intro y u hu
    unfold upd at hu
    split at hu
    · rename_i hyx
      subst hyx
      exact ⟨f e0, mem_modify_at f hj, by rw [hfk, hx], by rw [hfv]; exact Option.some.inj hu⟩
    · rename_i hyx
      obtain ⟨e, he, g1, g2⟩ := h2 y u hu
      refine ⟨e, mem_modify_other f hj he (fun h => hyx ?_), g1, g2⟩
      subst h
      exact hinj _ _ (g1.symm.trans hx)
theorem own_push [DecidableEq κ] {es : Array MapEntry} (h1 : ∀ e ∈ es.toList, ∃ x l, e.key = enc x ∧ keyOf P k e.key = some l ∧ F x = some e.val) (h2 : ∀ x v, F x = some v → ∃ e ∈ es.toList, e.key = enc x ∧ e.val = v)
    {x : κ} {l : Lit} (hk : keyOf P k (enc x) = some l) (hno : ∀ e ∈ es.toList, e.key ≠ enc x) (v : Value) (n : Nat) :
    (∀ e ∈ (es.push ⟨enc x, v, n⟩).toList, ∃ y l, e.key = enc y ∧ keyOf P k e.key = some l ∧ upd F x v y = some e.val) ∧ (∀ y u, upd F x v y = some u → ∃ e ∈ (es.push ⟨enc x, v, n⟩).toList, e.key = enc y ∧ e.val = u) := by
  constructor
  · intro e he
    simp only [Array.toList_push, List.mem_append, List.mem_singleton] at he
    rcases he with he | rfl
    · obtain ⟨y, l', g1, g2, g3⟩ := h1 e he
      refine ⟨y, l', g1, g2, ?_⟩
      unfold upd
      rw [if_neg (fun h => hno e he (by rw [g1, h]))]; exact g3
    · exact ⟨x, l, rfl, hk, by unfold upd; rw [if_pos rfl]⟩
  · intro y u hu
    simp only [Array.toList_push, List.mem_append, List.mem_singleton]
    unfold upd at hu
    split at hu
    · rename_i hyx
      subst hyx
      exact ⟨_, .inr rfl, rfl, Option.some.inj hu⟩
    · obtain ⟨e, he, g1, g2⟩ := h2 y u hu
      exact ⟨e, .inl he, g1, g2⟩
theorem grown_setBlock {w : World} {b : Nat} {es : Array MapEntry} {clock : Nat} (hb : w.heap[b]? = some (.map es clock)) (o : Obj) : w.grownBy (setBlock w b o) (some b) :=
  ⟨rfl, rfl, rfl, by simp [setBlock], fun i _ hi => heap_setBlock_other hb _ (fun e => hi (by rw [e]))⟩

theorem OwnM.put [DecidableEq κ] (h : OwnM w P k enc b F) (K : Keyed P k) (hinj : ∀ x y, enc x = enc y → x = y) {t e : TypeId} (ht : P.underlying t = some (.map k e)) {x : κ} {l : Lit} (hk : keyOf P k (enc x) = some l) (v : Value) :
    ∃ w', (Instr.mapUpdate t (.map (some b)) (enc x) v).run P w = .ok () w' ∧ OwnM w' P k enc b (upd F x v) ∧ w.grownBy w' (some b) := by
  obtain ⟨es, clock, hb, hs, h1, h2⟩ := h
  rcases K.find w hk es.toList (fun e he => by obtain ⟨_, l, _, h, _⟩ := h1 e he; exact ⟨l, h⟩) with ⟨f1, f2⟩ | ⟨j, e0, f1, f2, f3⟩
  · refine ⟨setBlock w b (.map (es.push ⟨enc x, v, clock⟩) (clock + 1)), ?_, ⟨_, _, heap_setBlock_same hb _, stamped_push hs f2, own_push h1 h2 hk f2 v clock⟩, grown_setBlock hb _⟩
    simp [Instr.mapUpdate, run_underlying ht, MapKept.run_getObj_map hb, K.check w false hk, f1, MapKept.run_setObj_map _ hb, Result.andThen, setBlock]
  · have hj : es[j]? = some e0 := by simpa using f2
    refine ⟨setBlock w b (.map (es.modify j (fun e' => { e' with key := enc x, val := v })) clock), ?_, ⟨_, _, heap_setBlock_same hb _, stamped_modify hs _ _ (fun _ _ => rfl) (fun e' _ he' => by rw [hj] at he'; cases he'; exact f3.symm), own_modify hs h1 h2 hinj f2 f3 _ f3.symm rfl⟩, grown_setBlock hb _⟩
    simp [Instr.mapUpdate, run_underlying ht, MapKept.run_getObj_map hb, K.check w false hk, f1, hj, f3, K.stays w hk, MapKept.run_setObj_map _ hb, Result.andThen, setBlock]

theorem OwnM.entry [DecidableEq κ] (h : OwnM w P k enc b F) (K : Keyed P k) (hinj : ∀ x y, enc x = enc y → x = y) {t e : TypeId} (ht : P.underlying t = some (.map k e)) {z : Value} (hz : (zeroValue e).run P w = .ok z w) {x : κ} {l : Lit} (hk : keyOf P k (enc x) = some l) :
    ∃ (w' : World) (n : Nat), (Instr.mapEntry t (.map (some b)) (enc x)).run P w = .ok (.tuple #[(F x).getD z, goInt n]) w' ∧ OwnE w' P k enc b (upd F x ((F x).getD z)) x n ∧ w.grownBy w' (some b) := by
  obtain ⟨es, clock, hb, hs, h1, h2⟩ := h
  rcases K.find w hk es.toList (fun e he => by obtain ⟨_, l, _, h, _⟩ := h1 e he; exact ⟨l, h⟩) with ⟨f1, f2⟩ | ⟨j, e0, f1, f2, f3⟩
  · have hF : F x = none := by
      cases hx : F x with
      | none => rfl
      | some v => obtain ⟨e, he, hke, _⟩ := h2 x v hx; exact absurd hke (f2 e he)
    rw [hF]
    obtain ⟨p1, p2⟩ := own_push h1 h2 hk f2 z clock
    refine ⟨setBlock w b (.map (es.push ⟨enc x, z, clock⟩) (clock + 1)), clock, ?_, ⟨_, _, heap_setBlock_same hb _, stamped_push hs f2, p1, p2, ⟨enc x, z, clock⟩, by simp, rfl, rfl⟩, grown_setBlock hb _⟩
    simp [Instr.mapEntry, run_underlying ht, MapKept.run_getObj_map hb, K.check w false hk, f1, hz, MapKept.run_setObj_map _ hb, Result.andThen, setBlock]
  · have hj : es[j]? = some e0 := by simpa using f2
    have hm0 := List.mem_of_getElem? f2
    obtain ⟨y, l', g1, g2, g3⟩ := h1 e0 hm0
    obtain rfl : y = x := hinj _ _ (g1.symm.trans f3)
    rw [g3]
    obtain ⟨p1, p2⟩ := own_modify (F := F) hs h1 h2 hinj f2 f3 (fun e' => { e' with key := enc y }) f3.symm (v := e0.val) rfl
    refine ⟨setBlock w b (.map (es.modify j (fun e' => { e' with key := enc y })) clock), e0.born, ?_, ⟨_, _, heap_setBlock_same hb _, stamped_modify hs _ _ (fun _ _ => rfl) (fun e' _ he' => by rw [hj] at he'; cases he'; exact f3.symm), p1, p2, { e0 with key := enc y }, mem_modify_at _ f2, rfl, rfl⟩, grown_setBlock hb _⟩
    simp [Instr.mapEntry, run_underlying ht, MapKept.run_getObj_map hb, K.check w false hk, f1, hj, f3, K.stays w hk, MapKept.run_setObj_map _ hb, Result.andThen, setBlock]

theorem OwnE.store [DecidableEq κ] {x : κ} {n : Nat} (h : OwnE w P k enc b F x n) (hinj : ∀ x y, enc x = enc y → x = y) (t : TypeId) (v : Value) :
    ∃ w', (Instr.entryStore t (.map (some b)) (goInt n) v).run P w = .ok () w' ∧ OwnM w' P k enc b (upd F x v) ∧ w.grownBy w' (some b) := by
  obtain ⟨es, clock, hb, hs, h1, h2, e0, he0, hx, hn⟩ := h
  obtain ⟨j, hjl, ej⟩ := List.getElem_of_mem he0
  have hnd := ((stamped_iff es clock).1 hs).2.1
  have hidx : es.findIdx? (fun e => (e.born : Int) == (n : Int)) = some j := by
    rw [Array.findIdx?_eq_some_iff_getElem]
    refine ⟨by simpa using hjl, by have : es[j]'(by simpa using hjl) = e0 := by simpa using ej
                                   rw [this]; simp [hn], fun i hi => ?_⟩
    have hne : es.toList[i].born ≠ es.toList[j].born := by
      have hp := hnd
      rw [List.Nodup, List.pairwise_map, List.pairwise_iff_getElem] at hp
      exact hp i j (by omega) hjl hi
    rw [ej, hn] at hne
    have h2 : ¬ ((es[i]'(by have := hjl; simp at this; omega)).born : Int) = (n : Int) := fun h => hne (by simpa using Int.ofNat.inj h)
    simpa using h2
  have f2 : es.toList[j]? = some e0 := by rw [List.getElem?_eq_getElem hjl, ej]
  refine ⟨setBlock w b (.map (es.modify j (fun e' => { e' with val := v })) clock), ?_, ⟨_, _, heap_setBlock_same hb _, stamped_modify hs _ _ (fun _ _ => rfl) (fun _ _ _ => rfl), own_modify hs h1 h2 hinj f2 hx (fun e' => { e' with val := v }) rfl rfl⟩, grown_setBlock hb _⟩
  simp [Instr.entryStore, goInt, asInt, asIntOf, MapKept.run_getObj_map hb, hidx, MapKept.run_setObj_map _ hb, Result.andThen, setBlock]
end
end Go.Proofs.Ytidmfdbckpficaa
