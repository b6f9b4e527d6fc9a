/-
  What is wrong with a schema hangs on what its kinds say alone; names that are read are no longer than the text.
-/
import Derived.Test.YtgjlonilbhlneaaGreatDoorM21
import Derived.Laws.Rows
namespace Go.Proofs.YtgjlonilbhlneaaGreatDoor
set_option linter.unusedVariables false
set_option linter.unusedSimpArgs false

def Kd.cz (k : Kd) : Kd := ⟨k.nm, k.of, k.fs, .nilIface, .nilIface⟩
theorem idxK_c (nm : Nm) : ∀ (L : List Kd) (i : Nat), idxK nm (L.map Kd.cz) i = idxK nm L i
  | [], _ => rfl
  | k :: r, i => by
    rw [List.map_cons, idxK, idxK, idxK_c nm r]
    rfl
theorem oChk_c (A : List Kd) : ∀ (of seen : List Nm), oChk (A.map Kd.cz) seen of = oChk A seen of
  | [], _ => rfl
  | n :: r, seen => by rw [oChk, oChk, idxK_c, oChk_c A r]
theorem back_c : ∀ (L : List Kd) (ns : List Nm), back (L.map Kd.cz) ns = (back L ns).map Kd.cz
  | [], _ => rfl
  | k :: r, ns => by
    rw [List.map_cons, back, back]
    show (if hasN ns k.nm = true then k.cz :: back (r.map Kd.cz) (ns ++ k.of) else back (r.map Kd.cz) ns) = _
    rw [back_c r, back_c r]
    split <;> rfl
theorem kinOf_c (L : List Kd) : kinOf (L.map Kd.cz) = (kinOf L).map Kd.cz := by
  unfold kinOf
  rw [List.getLast?_map]
  cases L.getLast? with
  | none => rfl
  | some k =>
    show (back (L.map Kd.cz).reverse [k.nm]).reverse = ((back L.reverse [k.nm]).reverse).map Kd.cz
    rw [← List.map_reverse, back_c, List.map_reverse]
theorem fieldsOf_c (K : List Kd) : fieldsOf (K.map Kd.cz) = fieldsOf K := by
  unfold fieldsOf
  rw [List.flatMap_map]
  rfl
theorem kErr_c (A : List Kd) (k : Kd) : kErr (A.map Kd.cz) k.cz = kErr A k := by
  have e : kinOf (A.map Kd.cz ++ [k.cz]) = (kinOf (A ++ [k])).map Kd.cz := by rw [← kinOf_c, List.map_append]; rfl
  unfold kErr
  rw [show k.cz.nm = k.nm from rfl, show k.cz.of = k.of from rfl, show k.cz.fs = k.fs from rfl, idxK_c, oChk_c, e, fieldsOf_c]
theorem ksGo_c : ∀ (L A : List Kd), ksGo (A.map Kd.cz) (L.map Kd.cz) = ksGo A L
  | [], _ => rfl
  | k :: r, A => by
    rw [List.map_cons, ksGo, ksGo, kErr_c]
    have := ksGo_c r (A ++ [k])
    rw [List.map_append] at this
    rw [show A.map Kd.cz ++ [k.cz] = A.map Kd.cz ++ [k].map Kd.cz from rfl, this]
    rfl
theorem ksErr_c (L : List Kd) : ksErr (L.map Kd.cz) = ksErr L := by
  unfold ksErr
  rw [List.length_map]
  have := ksGo_c L []
  rw [show (([] : List Kd).map Kd.cz) = [] from rfl] at this
  rw [this]
theorem bErr_c (L : List Kd) (A : List Bd) (x : Bd) : bErr (L.map Kd.cz) A x = bErr L A x := by
  unfold bErr hasK
  rw [idxK_c, idxK_c]
theorem bsGo_c (L : List Kd) : ∀ (B A : List Bd), bsGo (L.map Kd.cz) A B = bsGo L A B
  | [], _ => rfl
  | x :: r, A => by rw [bsGo, bsGo, bErr_c, bsGo_c L r]
theorem sErr_c (L : List Kd) (B : List Bd) : sErr (L.map Kd.cz) B = sErr L B := by
  unfold sErr
  rw [ksErr_c, bsGo_c]
theorem sErr_kq {L L' : List Kd} (h : L.map kq = L'.map kq) (B : List Bd) : sErr L B = sErr L' B := by
  have e : ∀ M : List Kd, M.map Kd.cz = (M.map kq).map fun q => ⟨q.1, q.2.1, q.2.2, .nilIface, .nilIface⟩ := fun M => by rw [List.map_map]; rfl
  rw [← sErr_c L, ← sErr_c L', e, e, h]

def SzP (m : Nat) (P : List Kq) : Prop := ∀ q ∈ P, q.1.length ≤ m ∧ ∀ f ∈ q.2.2, f.nm.length ≤ m
def SzD (m : Nat) (B : List Bd) : Prop := ∀ x ∈ B, x.nm.length ≤ m
theorem mem_oneMore {α : Type} {l : List α} {a x : α} (h : x ∈ oneMore l a) : x ∈ l ∨ x = a := by
  unfold oneMore at h
  split at h
  · exact .inl h
  · rcases List.mem_append.1 h with h | h
    · exact .inl h
    · exact .inr (by simpa using h)
theorem cut_le (l : Nm) (c : Nm) : (Lib.cut l c).1.length ≤ l.length := by
  unfold Lib.cut
  split
  · exact List.length_take_le' _ _
  · exact Nat.le_refl _
theorem kdOf_mem {Wd : List Nm} {q : Nm × List Nm × List Nm} (h : kdOf Wd = some q) : q.1 ∈ Wd ∧ ∀ w ∈ q.2.2, w ∈ Wd := by
  rcases Wd with _ | ⟨k, _ | ⟨x1, _ | ⟨o, _ | ⟨x3, r⟩⟩⟩⟩
  · cases h
  · cases h
  · replace h : (if (k == wKind) = true then some (x1, [], []) else none) = some q := h
    split at h
    · injection h with h; subst h; exact ⟨by simp, fun w hw => by cases hw⟩
    · cases h
  · replace h : (if (k == wKind) = true then some (x1, [], [o]) else none) = some q := h
    split at h
    · injection h with h; subst h; exact ⟨by simp, fun w hw => by simp at hw; subst hw; simp⟩
    · cases h
  · replace h : (if (k == wKind) = true then (if (o == wOf) = true then some (x1, ofL x3, r) else some (x1, [], o :: x3 :: r)) else none) = some q := h
    split at h
    · split at h
      · injection h with h; subst h; exact ⟨by simp, fun w hw => by simp [hw]⟩
      · injection h with h; subst h; exact ⟨by simp, fun w hw => by simp only [List.mem_cons] at hw ⊢; exact .inr (.inr hw)⟩
    · cases h
theorem bdOf_mem (Wd : List Nm) : (bdOf Wd).1.nm = [] ∨ (bdOf Wd).1.nm ∈ Wd := by
  rcases Wd with _ | ⟨k, _ | ⟨a, _ | ⟨b, _ | ⟨c, _ | ⟨x, _ | ⟨y, _ | ⟨z, r⟩⟩⟩⟩⟩⟩⟩
  · exact .inl rfl
  · exact .inl rfl
  · exact .inl rfl
  · exact .inl rfl
  · exact .inl rfl
  · exact .inl rfl
  · have e : bdOf [k, a, b, c, x, y] = if (k == wBond && areN [a, b, c]) = true then (⟨a, b, c, (numP x).1, if (y == wAny) = true then -1 else (numP y).1⟩, (numP x).2 && (if (y == wAny) = true then true else (numP y).2)) else (bdZ, false) := rfl
    rw [e]
    split
    · exact .inr (by simp)
    · exact .inl rfl
  · exact .inl rfl
theorem step_sz {m : Nat} {P P' : List Kq} {B B' : List Bd} {y : Nm} (hP : SzP m P) (hB : SzD m B) (hy : y.length ≤ m) (h : lnStep (P, B) y = some (P', B')) : SzP m P' ∧ SzD m B' := by
  unfold lnStep at h
  split at h
  · have hl : (Lib.trimSuffix y [10]).length ≤ m := Nat.le_trans (Lib.trimSuffix_le _ _) hy
    have hw : ∀ w ∈ wordsL (Lib.trimSuffix y [10]), w.length ≤ m := fun w hw => Nat.le_trans ((pieces_le 32 _).2 w hw) hl
    unfold alStep at h
    simp only at h
    split at h
    · injection h with h
      injection h with e1 e2
      subst e1
      rw [← e2]
      refine ⟨hP, fun x hx => ?_⟩
      rcases mem_oneMore hx with e | e
      · exact hB x e
      · subst e
        rcases bdOf_mem (wordsL (Lib.trimSuffix y [10])) with e | e
        · rw [e]; exact Nat.zero_le _
        · exact hw _ e
    · split at h
      · cases h
      · rename_i q hq
        injection h with h
        injection h with e1 e2
        rw [← e1, ← e2]
        refine ⟨fun x hx => ?_, hB⟩
        rcases mem_oneMore hx with e | e
        · exact hP x e
        · subst e
          unfold kdLine at hq
          split at hq
          · cases hq
          · rename_i q0 hq0
            split at hq
            · injection hq with hq
              subst hq
              obtain ⟨k1, k2⟩ := kdOf_mem hq0
              refine ⟨hw _ k1, fun f hf => ?_⟩
              obtain ⟨w, hw', rfl⟩ := List.mem_map.1 hf
              exact Nat.le_trans (cut_le _ _) (hw _ (k2 w hw'))
            · cases hq
  · cases h
theorem fold_sz {m : Nat} : ∀ (ys : List Nm) (P0 : List Kq) (B0 : List Bd) {P : List Kq} {B : List Bd}, SzP m P0 → SzD m B0 → (∀ y ∈ ys, y.length ≤ m) → ys.foldl (fun o y => o.bind fun st => lnStep st y) (some (P0, B0)) = some (P, B) → SzP m P ∧ SzD m B
  | [], P0, B0, P, B, hP, hB, _, h => by
    have h' : some (P0, B0) = some (P, B) := h
    injection h' with h'
    injection h' with e1 e2
    subst e1 e2
    exact ⟨hP, hB⟩
  | y :: r, P0, B0, P, B, hP, hB, hy, h => by
    rw [List.foldl_cons] at h
    replace h : r.foldl (fun o y => o.bind fun st => lnStep st y) (lnStep (P0, B0) y) = some (P, B) := h
    cases hst : lnStep (P0, B0) y with
    | none => rw [hst, fold_none] at h; cases h
    | some st =>
      obtain ⟨P1, B1⟩ := st
      rw [hst] at h
      obtain ⟨g1, g2⟩ := step_sz hP hB (hy y (by simp)) hst
      exact fold_sz r P1 B1 g1 g2 (fun z hz => hy z (List.mem_cons_of_mem _ hz)) h
theorem flat_le {ys : List Nm} {y : Nm} (h : y ∈ ys) : y.length ≤ ys.flatten.length := by
  induction ys with
  | nil => cases h
  | cons a r ih =>
    rw [List.flatten_cons, List.length_append]
    rcases List.mem_cons.1 h with e | e
    · subst e; omega
    · have := ih e; omega
theorem lines_sz {x : Nm} {L : List Kd} {B : List Bd} (hx : x.length ≤ maxLen) (h : lnFold (linesL x) = some (L.map kq, B)) : SzK L ∧ SzB B := by
  obtain ⟨h1, h2⟩ := fold_sz (m := maxLen) (linesL x) [] [] (fun q hq => by cases hq) (fun q hq => by cases hq) (fun y hy => by
    have := flat_le hy
    rw [linesL_flat] at this
    omega) h
  exact ⟨fun k hk => h1 (kq k) (List.mem_map.2 ⟨k, hk, rfl⟩), h2⟩
theorem fold_stop {ys zs : List Nm} (h : lnFold ys = none) : lnFold (ys ++ zs) = none := by
  unfold lnFold at *
  rw [List.foldl_append, h, fold_none]
end Go.Proofs.YtgjlonilbhlneaaGreatDoor

/-
  What a round of Parse's loop leaves, and the schema that was read.
-/
namespace Go.Proofs.YtgjlonilbhlneaaGreatDoor
open Go.RowKit
set_option linter.unusedVariables false
set_option linter.unusedSimpArgs false

theorem cell_blk {w A : World} {p : Addr} (h : A.heap[p.block]? = w.heap[p.block]?) : A.cell? p = w.cell? p := by unfold World.cell?; rw [h]
theorem EV.of {w A : World} (h : EV w) (hb : ∀ b, b < w.heap.size → A.heap[b]? = w.heap[b]?) : EV A := by
  obtain ⟨h1, h2, ⟨m, h3⟩, ⟨a, b, h4⟩, ⟨c, d, h5⟩⟩ := h
  have l : ∀ {p v}, w.cell? p = some v → A.cell? p = some v := fun {p v} hc => (cell_blk (hb _ (World.block_lt_of_cell? w _ hc))).trans hc
  exact ⟨⟨l h1.1, l h1.2.1, l h1.2.2⟩, l h2, ⟨m, l h3⟩, ⟨a, b, l h4⟩, ⟨c, d, l h5⟩⟩
theorem cell_at {w : World} {b i : Nat} {cs : Array Value} {t : TypeId} {u : Value} (h : w.heap[b]? = some (.cells cs t (0, 0))) (hu : cs[i]? = some u) : w.cell? ⟨b, i, none⟩ = some u := by simp [World.cell?, h, hu]
theorem frz_at {w : World} {b i : Nat} {cs : Array Value} {t : TypeId} (h : w.heap[b]? = some (.cells cs t (0, 0))) : w.frozen? ⟨b, i, none⟩ = false := by simp [World.frozen?, h]
def Res3 (W : World) (s : Nat) (a b c d : Value) : Prop := W.heap[s]? = some (.cells #[a, b] 25 (0, 0)) ∧ W.heap[s + 1]? = some (.cells #[c] 3 (0, 0)) ∧ W.heap[s + 1 + 1]? = some (.cells #[d] 29 (0, 0))
theorem Res3.cells {W : World} {s : Nat} {a b c d : Value} (h : Res3 W s a b c d) : (W.cell? ⟨s, 0, none⟩ = some a ∧ W.cell? ⟨s, 1, none⟩ = some b ∧ W.cell? ⟨s + 1, 0, none⟩ = some c ∧ W.cell? ⟨s + 1 + 1, 0, none⟩ = some d) ∧ W.frozen? ⟨s, 0, none⟩ = false ∧ W.frozen? ⟨s, 1, none⟩ = false ∧ W.frozen? ⟨s + 1, 0, none⟩ = false ∧ W.frozen? ⟨s + 1 + 1, 0, none⟩ = false :=
  ⟨⟨cell_at h.1 rfl, cell_at h.1 rfl, cell_at h.2.1 rfl, cell_at h.2.2 rfl⟩, frz_at h.1, frz_at h.1, frz_at h.2.1, frz_at h.2.2⟩
abbrev put3 (W : World) (s : Nat) (a b c d : Value) : World := (((W.setCell ⟨s, 0, none⟩ a).setCell ⟨s, 1, none⟩ b).setCell ⟨s + 1, 0, none⟩ c).setCell ⟨s + 1 + 1, 0, none⟩ d
theorem set_same0 (W : World) (b i : Nat) (cs : Array Value) (t : TypeId) (v : Value) (h : W.heap[b]? = some (.cells cs t (0, 0))) : (W.setCell ⟨b, i, none⟩ v).heap[b]? = some (.cells (cs.setIfInBounds i v) t (0, 0)) := heap_setCell_same W b i cs t v h
theorem set_other0 (W : World) (p : Addr) (b : Nat) (v : Value) (h : b ≠ p.block) : (W.setCell p v).heap[b]? = W.heap[b]? := heap_setCell_other W p b v h
theorem put3_res {W : World} {s : Nat} {a b c d a' b' c' d' : Value} (h : Res3 W s a b c d) : Res3 (put3 W s a' b' c' d') s a' b' c' d' := by
  obtain ⟨h1, h2, h3⟩ := h
  refine ⟨?_, ?_, ?_⟩
  · refine (set_other0 _ _ _ _ (by simp; omega)).trans ((set_other0 _ _ _ _ (by simp)).trans ?_)
    exact set_same0 _ _ 1 _ 25 _ (set_same0 _ _ 0 _ 25 _ h1)
  · refine (set_other0 _ _ _ _ (by simp)).trans ?_
    exact set_same0 _ _ 0 _ 3 _ ((set_other0 _ _ _ _ (by simp)).trans ((set_other0 _ _ _ _ (by simp)).trans h2))
  · exact set_same0 _ _ 0 _ 29 _ ((set_other0 _ _ _ _ (by simp)).trans ((set_other0 _ _ _ _ (by simp; omega)).trans ((set_other0 _ _ _ _ (by simp; omega)).trans h3)))
theorem put3_other {W : World} {s : Nat} {a b c d : Value} {k : Nat} (h : k < s ∨ s + 2 < k) : (put3 W s a b c d).heap[k]? = W.heap[k]? :=
  (set_other0 _ _ _ _ (by simp; omega)).trans ((set_other0 _ _ _ _ (by simp; omega)).trans ((set_other0 _ _ _ _ (by simp; omega)).trans (set_other0 _ _ _ _ (by simp; omega))))
theorem put3_size (W : World) (s : Nat) (a b c d : Value) : (put3 W s a b c d).heap.size = W.heap.size := by simp [put3]
def PrX (s : Nat) (w : World) (xs : List (Nat × Nm)) (A : World) : Prop :=
  ∃ ys y st, xs = ys ++ [y] ∧ lnFold (ys.map (·.2)) = some st ∧ lnStep st y.2 = none ∧ Res3 A s (.slice none 0 0) (.slice none 0 0) (.int .i64 y.1) (.iface 60 (.int .i64 2)) ∧ Oth s w A
theorem Res3.turn {A A' : World} {s : Nat} {a b c d : Value} {row : Option Nat} (h : Res3 A s a b c d) (hg : A.grownBy A' row) (hr : ∀ r, row = some r → s + 2 < r) : Res3 A' s a b c d := by
  obtain ⟨h1, h2, h3⟩ := h
  have k : ∀ {b o}, A.heap[b]? = some o → b ≤ s + 2 → A'.heap[b]? = some o := fun {b o} hb hs => (hg.block b (Array.getElem?_eq_some_iff.1 hb).1 (fun e => by have := hr b e.symm; omega)).trans hb
  exact ⟨k h1 (by omega), k h2 (by omega), k h3 (by omega)⟩
theorem prX_abides {s : Nat} {w : World} (hw : w.heap.size = s + 5) : AbidesC (fun r => (s + 7 ≤ r ∧ r ≤ s + 11) ∨ r = s + 6) (PrX s w) := fun pre A A' row ⟨ys, y, st, h1, h2, h3, h4, h5⟩ hg hr =>
  ⟨ys, y, st, h1, h2, h3, h4.turn hg (fun r e => by have := hr r e; omega), h5.turn (by omega) hg (fun r e => by have := hr r e; omega)⟩
structure Nr (s : Nat) (A W : World) : Prop where
  os : W.os = A.os
  tape : W.tape = A.tape
  output : W.output = A.output
  size : A.heap.size ≤ W.heap.size
  block : ∀ b, b < s + 12 → b ≠ s + 3 → W.heap[b]? = A.heap[b]?
theorem nr_below {s : Nat} {A W : World} (h : Below A.heap.size A W) (hA : s + 11 < A.heap.size) : Nr s A W := ⟨h.os, h.tape, h.output, h.size, fun b hb _ => h.block b (by omega)⟩
theorem nr_fr {s : Nat} {A W W2 : World} (h : Nr s A W) (hA : s + 11 < A.heap.size) (hf : Fr (s + 12) (s + 3) W W2) : Nr s A W2 :=
  ⟨hf.os.trans h.os, hf.tape.trans h.tape, hf.output.trans h.output, Nat.le_trans h.size hf.size, fun b hb hn => (hf.old b (by have := h.size; omega) hn hb).trans (h.block b hb hn)⟩
theorem nr_oth {s : Nat} {w A W : World} (h : Nr s A W) (ho : Oth (s + 3) w A) : Oth (s + 3) w W :=
  ⟨h.os.trans ho.os, h.tape.trans ho.tape, h.output.trans ho.output, Nat.le_trans ho.size h.size, fun b hb => (h.block b (by omega) (by omega)).trans (ho.block b hb)⟩
theorem res_oth {s : Nat} {w A : World} {a b c d : Value} (h : Res3 w s a b c d) (ho : Oth (s + 3) w A) : Res3 A s a b c d :=
  ⟨(ho.block s (by omega)).trans h.1, (ho.block (s + 1) (by omega)).trans h.2.1, (ho.block (s + 1 + 1) (by omega)).trans h.2.2⟩
theorem nr_keep {s : Nat} {A W : World} (h : Nr s A W) : Keep2 (s + 5) A W ∧ ∀ b, s + 7 ≤ b → b ≤ s + 11 → W.heap[b]? = A.heap[b]? :=
  ⟨⟨h.block _ (by omega) (by omega), h.block _ (by omega) (by omega)⟩, fun b h1 h2 => h.block b (by omega) (by omega)⟩
theorem nr_put3 {s : Nat} {A W : World} {a b c d : Value} (h : Nr s A W) : Keep2 (s + 5) A (put3 W s a b c d) ∧ ∀ k, s + 7 ≤ k → k ≤ s + 11 → (put3 W s a b c d).heap[k]? = A.heap[k]? :=
  ⟨⟨(put3_other (.inr (by omega))).trans (h.block _ (by omega) (by omega)), (put3_other (.inr (by omega))).trans (h.block _ (by omega) (by omega))⟩, fun k h1 h2 => (put3_other (.inr (by omega))).trans (h.block k (by omega) (by omega))⟩
theorem body_ret {s : Nat} {W0 A W : World} {pre : List (Nat × Nm)} {y : Nat × Nm} {st : List (Nm × List Nm × List Fd) × List Bd} {a b c d : Value} (h : Nr s A W) (ho : Oth (s + 3) W0 A) (h0 : Res3 W0 s a b c d) (hf : lnFold (pre.map (·.2)) = some st) (hn : lnStep st y.2 = none) :
    PrX s W0 (pre ++ [y]) (put3 W s (.slice none 0 0) (.slice none 0 0) (.int .i64 y.1) (.iface 60 (.int .i64 2))) := by
  have ho' := nr_oth h ho
  refine ⟨pre, y, st, rfl, hf, hn, put3_res (res_oth h0 ho'), ⟨ho'.os, ho'.tape, ho'.output, by rw [put3_size]; exact ho'.size, fun b hb => (put3_other (.inl hb)).trans (ho'.block b (by omega))⟩⟩
theorem body_ok {s : Nat} {W0 A W : World} {pre : List (Nat × Nm)} {y : Nat × Nm} {st : List (Nm × List Nm × List Fd) × List Bd} {L : List Kd} {B : List Bd} (h : Nr s A W) (ho : Oth (s + 3) W0 A) (hf : lnFold (pre.map (·.2)) = some st) (hn : lnStep st y.2 = some (L.map kq, B)) (hS : SSt (s + 12) (s + 3) L B W) : LnI s W0 (pre ++ [y]) W := by
  refine ⟨L, B, ?_, .inr hS, nr_oth h ho⟩
  rw [List.map_append, List.map_cons, List.map_nil, lnFold_snoc, hf]
  exact hn
theorem own_isB {w : World} {base : Nat} {v : Value} {M : List Bd} (h : w.ownsRow base 40 5 v M.length (cellsB M)) : IsB w v M := by
  have hc : ∀ g, v.ownBlock = some g → ∀ j u, (cellsB M)[j]? = some u → w.cell? ((⟨g, 0, none⟩ : Addr).add j) = some u := fun g hg => World.ownsRow.cells h hg
  rcases h.2 with ⟨rfl, h0⟩ | ⟨g, cap, cur, rfl, hb, hg, hle, hm, rest⟩
  · exact .inl ⟨rfl, List.eq_nil_of_length_eq_zero h0⟩
  · refine .inr ⟨g, 0, cap, rfl, hle, hm, (Array.getElem?_eq_some_iff.1 hg).1, fun k p hp => ?_⟩
    have fl : ∀ (L : List Bd) (k : Nat) (x : Bd) (i : Nat), L[k]? = some x → i < 5 → (cellsB L)[k * 5 + i]? = x.cells[i]? := by
      intro L
      induction L with
      | nil => intro k x i hk; simp at hk
      | cons y r ih =>
        intro k x i hk hi
        unfold cellsB
        cases k with
        | zero =>
          simp at hk; subst hk
          rw [List.flatMap_cons, List.getElem?_append_left (by simp [Bd.cells]; omega)]
          simp
        | succ k =>
          rw [List.flatMap_cons, List.getElem?_append_right (by simp [Bd.cells]; omega)]
          have := ih k x i (by simpa using hk) hi
          unfold cellsB at this
          rw [← this]
          congr 1
          simp [Bd.cells]
          omega
    have c : ∀ i u, i < 5 → p.cells[i]? = some u → w.cell? ⟨g, 0 + (k * 5 + i), none⟩ = some u := fun i u hi hu => by
      have := hc g rfl (k * 5 + i) u ((fl M k p i hp hi).trans hu)
      rwa [Addr.add_lit] at this
    exact ⟨c 0 _ (by omega) rfl, c 1 _ (by omega) rfl, c 2 _ (by omega) rfl, c 3 _ (by omega) rfl, c 4 _ (by omega) rfl⟩
theorem sc_of {s : Nat} {pre : List (Nat × Nm)} {L : List Kd} {B : List Bd} {A : World} (h : LnSt s pre L B A) : ∃ ak ck ab cb, A.heap[s + 3]? = some (.cells #[.slice ak L.length ck, .slice ab B.length cb] 25 (0, 0)) ∧ IsK A (.slice ak L.length ck) L ∧ Parts A L ∧ IsB A (.slice ab B.length cb) B := by
  rcases h with ⟨_, rfl, rfl, h⟩ | ⟨vk, vb, h1, h2, h3, h4, _⟩
  · exact ⟨none, 0, none, 0, h, .inl ⟨rfl, rfl⟩, fun k hk => (by cases hk), .inl ⟨rfl, rfl⟩⟩
  · have i1 := own_isK h2
    have i2 := own_isB h3
    obtain ⟨ak, ck, rfl, _⟩ := i1.sln
    obtain ⟨ab, cb, rfl⟩ : ∃ ab cb, vb = .slice ab B.length cb := by
      rcases i2 with ⟨rfl, rfl⟩ | ⟨b, off, cap, rfl, _⟩
      · exact ⟨none, 0, rfl⟩
      · exact ⟨_, _, rfl⟩
    exact ⟨ak, ck, ab, cb, h1, i1, fun k hk => ⟨own_isS (h4 k hk).1, own_isF (h4 k hk).2⟩, i2⟩
theorem sc_at {s : Nat} {pre : List (Nat × Nm)} {L : List Kd} {B : List Bd} {A : World} {vk vb : Value} (h : LnSt s pre L B A) (h3 : A.heap[s + 3]? = some (.cells #[vk, vb] 25 (0, 0))) : IsK A vk L ∧ Parts A L ∧ IsB A vb B := by
  obtain ⟨ak, ck, ab, cb, g, i1, i2, i3⟩ := sc_of h
  rw [h3] at g
  injection g with g
  injection g with g
  have g' := congrArg Array.toList g
  simp only [List.cons.injEq, and_true] at g'
  rw [g'.1, g'.2]
  exact ⟨i1, i2, i3⟩
theorem LnSt.on {s : Nat} {pre : List (Nat × Nm)} {L : List Kd} {B : List Bd} {A W : World} (h : LnSt s pre L B A) (hB : Below A.heap.size A W) : LnSt s pre L B W := by
  rcases h with ⟨h1, h2, h3, h4⟩ | h
  · exact .inl ⟨h1, h2, h3, (hB.block _ (Array.getElem?_eq_some_iff.1 h4).1).trans h4⟩
  · exact .inr (h.below hB)
theorem LnSt.turn {s : Nat} {pre : List (Nat × Nm)} {L : List Kd} {B : List Bd} {A W : World} {r : Nat} (h : LnSt s pre L B A) (hg : A.grownBy W (some r)) (hr : r < s + 12 ∧ r ≠ s + 3) : LnSt s pre L B W := by
  rcases h with ⟨h1, h2, h3, h4⟩ | h
  · exact .inl ⟨h1, h2, h3, (hg.block _ (Array.getElem?_eq_some_iff.1 h4).1 (fun e => hr.2 (by injection e with e; exact e.symm))).trans h4⟩
  · exact .inr (h.turn hg (fun q e => by injection e with e; subst e; exact hr))
theorem grown_cell (W : World) (b i : Nat) (v : Value) : W.grownBy (W.setCell ⟨b, i, none⟩ v) (some b) := ⟨rfl, rfl, rfl, by simp, fun k _ hk => set_other0 _ _ _ _ (fun e => hk (by rw [e]))⟩
theorem put3_st {s : Nat} {pre : List (Nat × Nm)} {L : List Kd} {B : List Bd} {W : World} {a b c d : Value} (h : LnSt s pre L B W) : LnSt s pre L B (put3 W s a b c d) :=
  (((h.turn (grown_cell _ _ _ _) (by omega)).turn (grown_cell _ _ _ _) (by omega)).turn (grown_cell _ _ _ _) (by omega)).turn (grown_cell _ _ _ _) (by omega)
theorem put3_env (W : World) (s : Nat) (a b c d : Value) : (put3 W s a b c d).os = W.os ∧ (put3 W s a b c d).tape = W.tape ∧ (put3 W s a b c d).output = W.output := by
  have g1 := grown_cell W s 0 a
  have g2 := grown_cell (W.setCell ⟨s, 0, none⟩ a) s 1 b
  have g3 := grown_cell ((W.setCell ⟨s, 0, none⟩ a).setCell ⟨s, 1, none⟩ b) (s + 1) 0 c
  have g4 := grown_cell (((W.setCell ⟨s, 0, none⟩ a).setCell ⟨s, 1, none⟩ b).setCell ⟨s + 1, 0, none⟩ c) (s + 1 + 1) 0 d
  exact ⟨g4.os.trans (g3.os.trans (g2.os.trans g1.os)), g4.tape.trans (g3.tape.trans (g2.tape.trans g1.tape)), g4.output.trans (g3.output.trans (g2.output.trans g1.output))⟩
theorem fin3 {s : Nat} {W0 A W1 : World} {pre : List (Nat × Nm)} {L : List Kd} {B : List Bd} {x y z u : Value} (ho : Oth (s + 3) W0 A) (hR0 : Res3 W0 s x y z u) (hK : A.heap[s + 5]? = some (.deferred (some []))) (hst : LnSt s pre L B A) (hB1 : Below A.heap.size A W1) (a b c d : Value) :
    (put3 W1 s a b c d).heap[s + 5]? = some (.deferred (some [])) ∧ Res3 ((put3 W1 s a b c d).putObj (s + 5) (.deferred none)) s a b c d ∧ Oth s W0 ((put3 W1 s a b c d).putObj (s + 5) (.deferred none)) ∧ LnSt s pre L B ((put3 W1 s a b c d).putObj (s + 5) (.deferred none)) ∧ ((put3 W1 s a b c d).putObj (s + 5) (.deferred none)).heap[s + 3]? = A.heap[s + 3]? := by
  have h5 := (Array.getElem?_eq_some_iff.1 hK).1
  have r := res_oth hR0 ho
  have hb : ∀ k, k < s + 6 → W1.heap[k]? = A.heap[k]? := fun k hk => hB1.block k (by omega)
  have r1 : Res3 W1 s x y z u := ⟨(hb s (by omega)).trans r.1, (hb (s + 1) (by omega)).trans r.2.1, (hb (s + 1 + 1) (by omega)).trans r.2.2⟩
  have p := put3_res (a' := a) (b' := b) (c' := c) (d' := d) r1
  refine ⟨(put3_other (.inr (by omega))).trans ((hb (s + 5) (by omega)).trans hK), p.turn (grownBy_putObj' (put3 W1 s a b c d) (s + 5) (.deferred none)) (fun q e => by injection e with e; omega), ⟨?_, ?_, ?_, ?_, fun k hk => ?_⟩, (put3_st (hst.on hB1)).turn (grownBy_putObj' (put3 W1 s a b c d) (s + 5) (.deferred none)) (by omega), ?_⟩
  · exact (grownBy_putObj' (put3 W1 s a b c d) (s + 5) (.deferred none)).os.trans ((put3_env W1 s a b c d).1.trans (hB1.os.trans ho.os))
  · exact (grownBy_putObj' (put3 W1 s a b c d) (s + 5) (.deferred none)).tape.trans ((put3_env W1 s a b c d).2.1.trans (hB1.tape.trans ho.tape))
  · exact (grownBy_putObj' (put3 W1 s a b c d) (s + 5) (.deferred none)).output.trans ((put3_env W1 s a b c d).2.2.trans (hB1.output.trans ho.output))
  · rw [World.putObj_size, put3_size]; exact Nat.le_trans ho.size hB1.size
  · exact (World.putObj_heap_other (by omega)).trans ((put3_other (.inl hk)).trans ((hb k (by omega)).trans (ho.block k (by omega))))
  · exact (World.putObj_heap_other (by omega)).trans ((put3_other (.inr (by omega))).trans (hb _ (by omega)))
theorem numL_map (L : List Nm) : (numL L).map (·.2) = L := by
  unfold numL
  rw [List.map_map]
  have : (fun p : Nm × Nat => ((p.2, p.1) : Nat × Nm).2) = Prod.fst := by funext p; rfl
  show L.zipIdx.map (fun p : Nm × Nat => ((p.2, p.1) : Nat × Nm).2) = L
  rw [this, List.zipIdx_map_fst]
theorem numL_get (L : List Nm) (i : Nat) : (numL L)[i]? = (L[i]?).map fun y => (i, y) := by
  unfold numL
  rw [List.getElem?_map, List.getElem?_zipIdx]
  cases L[i]? <;> simp
theorem stop_at {x : Nm} {ys : List (Nat × Nm)} {y : Nat × Nm} {st : List (Nm × List Nm × List Fd) × List Bd} (hp : ys ++ [y] <+: numL (linesL x)) (hf : lnFold (ys.map (·.2)) = some st) (hn : lnStep st y.2 = none) :
    lnFold (linesL x) = none ∧ ∃ k : Nat, (y.1 : Int) = k ∧ ∃ pre z rest st, linesL x = pre ++ z :: rest ∧ pre.length = k ∧ lnFold pre = some st ∧ lnStep st z = none := by
  obtain ⟨zs, hz⟩ := hp
  have e : linesL x = ys.map (·.2) ++ y.2 :: zs.map (·.2) := by
    have := congrArg (List.map (·.2)) hz
    rw [numL_map] at this
    rw [← this]
    simp
  have h1 : lnFold (ys.map (·.2) ++ [y.2]) = none := by rw [lnFold_snoc, hf]; exact hn
  have hy : y.1 = ys.length := by
    have h2 := numL_get (linesL x) ys.length
    rw [← hz, e] at h2
    simp only [List.append_assoc, List.singleton_append] at h2
    rw [List.getElem?_append_right (Nat.le_refl _), List.getElem?_append_right (by simp)] at h2
    simp only [Nat.sub_self, List.length_map, List.getElem?_cons_zero, Option.map_some, Option.some.injEq] at h2
    exact congrArg Prod.fst h2
  refine ⟨?_, ys.length, by rw [hy], ys.map (·.2), y.2, zs.map (·.2), st, e, by simp, hf, hn⟩
  rw [e, show ys.map (·.2) ++ y.2 :: zs.map (·.2) = (ys.map (·.2) ++ [y.2]) ++ zs.map (·.2) by simp]
  exact fold_stop h1
def PaPost (x : Nm) (w : World) (e : Ending) (w' : World) : Prop :=
  ∃ ak nk ck ab nb cb, ∃ at' z : Int, e = .returned (.tuple #[.agg #[.slice ak nk ck, .slice ab nb cb], .int .i64 at', errV z]) ∧ Below w.heap.size w w' ∧
    (z = 0 → at' = 0 ∧ ∃ L B, lnFold (linesL x) = some (L.map kq, B) ∧ (sErr L B).2 = 0 ∧ IsK w' (.slice ak nk ck) L ∧ Parts w' L ∧ IsB w' (.slice ab nb cb) B) ∧
    (z ≠ 0 → (ak = none ∧ nk = 0 ∧ ck = 0 ∧ ab = none ∧ nb = 0 ∧ cb = 0) ∧ ((lnFold (linesL x) = none ∧ z = 2 ∧ ∃ k : Nat, at' = k ∧ ∃ pre y rest st, linesL x = pre ++ y :: rest ∧ pre.length = k ∧ lnFold pre = some st ∧ lnStep st y = none) ∨ (at' = 0 ∧ ∃ L B, lnFold (linesL x) = some (L.map kq, B) ∧ (sErr L B).2 = z)))
end Go.Proofs.YtgjlonilbhlneaaGreatDoor
