/-
  One more id in the row of a key, by lookup and store, or by its entry; what stays then.
-/
import Derived.Test.YtikjmingkadjcaaGreatDoorA36
namespace Go.Proofs.YtikjmingkadjcaaGreatDoor
open Go.RowKit
open Go.Maps (Keyed)
set_option linter.unusedVariables false
set_option linter.unusedSimpArgs false

structure Bx (B : Nat) (l : List Nat) (w w' : World) : Prop where
  os : w'.os = w.os
  tape : w'.tape = w.tape
  output : w'.output = w.output
  size : w.heap.size ≤ w'.heap.size
  block : ∀ k, k < B → k ∉ l → w'.heap[k]? = w.heap[k]?
theorem Bx.refl (B : Nat) (l : List Nat) (w : World) : Bx B l w w := ⟨rfl, rfl, rfl, Nat.le_refl _, fun _ _ _ => rfl⟩
theorem Bx.trans {B : Nat} {l : List Nat} {a b c : World} (h : Bx B l a b) (k : Bx B l b c) : Bx B l a c :=
  ⟨k.os.trans h.os, k.tape.trans h.tape, k.output.trans h.output, Nat.le_trans h.size k.size, fun i hi hn => (k.block i hi hn).trans (h.block i hi hn)⟩
theorem Bx.of_below {B B' : Nat} {l : List Nat} {w w' : World} (h : Below B' w w') (hB : B ≤ B') : Bx B l w w' := ⟨h.os, h.tape, h.output, h.size, fun k hk _ => h.block k (Nat.lt_of_lt_of_le hk hB)⟩
theorem Bx.of_grown {B : Nat} {l : List Nat} {w w' : World} {r : Option Nat} (h : w.grownBy w' r) (hB : B ≤ w.heap.size) (hr : ∀ g, r = some g → g ∈ l ∨ B ≤ g) : Bx B l w w' :=
  ⟨h.os, h.tape, h.output, h.size, fun k hk hn => h.block k (Nat.lt_of_lt_of_le hk hB) (fun e => by
    rcases hr k e.symm with h1 | h1
    · exact hn h1
    · omega)⟩
theorem Bx.sub {B : Nat} {l l' : List Nat} {w w' : World} (h : Bx B l w w') (hs : ∀ x ∈ l, x ∈ l') : Bx B l' w w' := ⟨h.os, h.tape, h.output, h.size, fun k hk hn => h.block k hk (fun hx => hn (hs k hx))⟩
theorem Bx.below {B B' : Nat} {l : List Nat} {w w' : World} (h : Bx B l w w') (hB : B' ≤ B) (hl : ∀ x ∈ l, B' ≤ x) : Below B' w w' := ⟨h.os, h.tape, h.output, h.size, fun k hk => h.block k (Nat.lt_of_lt_of_le hk hB) (fun hx => by have := hl k hx; omega)⟩

theorem mapW_app {κ : Type} [DecidableEq κ] {W : World} {base : Nat} {k : TypeId} {enc : κ → Value} {b : Nat} {H : κ → Option (List Int)} (h : MapW W base k enc b H) (K : Keyed Tryz.prog k) (hinj : ∀ x y, enc x = enc y → x = y) {t : TypeId} (ht : Tryz.prog.underlying t = some (.map k 57)) {x : κ} {l : Lit} (hk : keyOf Tryz.prog k (enc x) = some l) {g0 c : Nat} {id : Int} (ha : W.cell? ⟨g0, 0, none⟩ = some (.int .i64 id)) (hlen : ((H x).getD []).length ≤ 1000000) (hbase : base ≤ W.heap.size) :
    ∃ v v' w2 w3, (∀ W', W'.heap[b]? = W.heap[b]? → (Instr.lookup t (.map (some b)) (enc x) false).run Tryz.prog W' = .ok v W') ∧ (∃ a n c, v = .slice a n c) ∧ (∃ a n c, v' = .slice a n c) ∧ (∀ ty, (Builtin.append_ #[57, 57] ty #[v, .slice (some ⟨g0, 0, none⟩) 1 c]).run Tryz.prog W = .ok v' w2) ∧ (Instr.mapUpdate t (.map (some b)) (enc x) v').run Tryz.prog w2 = .ok () w3 ∧
      MapW w3 base k enc b (upd H x ((H x).getD [] ++ [id])) ∧ (∀ s, s ≠ 3 → Kt s W w2 ∧ Kt s W w3) ∧ Bx base [b] W w2 ∧ Bx base [b] W w3 := by
  obtain ⟨F, h1, h2, h3⟩ := h
  obtain ⟨i0, hi, hz0, hz1, hz2⟩ := info_parts infoInt
  have hl := fun W' (hW : W'.heap[b]? = W.heap[b]?) => (h1.of_block hW).look K hinj ht (zero60 W') hk false
  obtain ⟨v, hv⟩ : ∃ v, v = (F x).getD (.slice none 0 0) := ⟨_, rfl⟩
  have hown : W.ownsRow base 3 1 v ((H x).getD []).length (cellsI ((H x).getD [])) := by
    rcases h2 x with ⟨e1, e2⟩ | ⟨u, L, e1, e2, hh⟩
    · rw [hv, e1, e2]; exact World.ownsRow_nil _ _ _ _
    · rw [hv, e1, e2]; exact hh
  have hfx : ∀ g, v.ownBlock = some g → F x = some v := by
    intro g hg
    rcases h2 x with ⟨e1, e2⟩ | ⟨u, L, e1, e2, hh⟩
    · rw [hv, e1] at hg; cases hg
    · rw [hv, e1]; rfl
  obtain ⟨v', w2, r1, r2, r3, r4, r5⟩ := append_at (P := Tryz.prog) W base 57 0 3 i0 _ 1 8 Tryz.underlying57 hi hz0 hz1 hz2 rfl (by decide) v _ _ hown ⟨g0, 0, none⟩ 1 c (by omega) [.int .i64 id] rfl (by
    intro j u hj
    cases j with
    | zero => simp at hj; subst hj; rw [Addr.add_lit]; exact ha
    | succ j => simp at hj) (by intro u hu; simp at hu; subst hu; rfl) (by unfold maxLen; omega) (by omega) hbase
  have hbv : v.ownBlock ≠ some b := by
    intro e
    obtain ⟨es, clk, hm, _⟩ := h1
    rcases hown.2 with ⟨e0, _⟩ | ⟨g, cap, cur, e0, _, hg, _⟩
    · rw [e0] at e; cases e
    · rw [e0] at e
      injection e with e
      simp only at e
      subst e
      rw [hm] at hg
      cases hg
  have h1' : OwnM w2 Tryz.prog k enc b F := h1.of_block (r3.block b h1.lt (fun e => hbv e.symm))
  obtain ⟨w3, p1, p2, p3⟩ := h1'.put K hinj ht hk v'
  have hT3 : Kt 3 w2 w3 := Kt.of_map h1' p3
  have hB2 : Bx base [b] W w2 := Bx.of_grown r3 hbase (fun g hg => .inr (hown.lt g hg).1)
  have hB3 : Bx base [b] W w3 := hB2.trans (Bx.of_grown p3 (Nat.le_trans hbase r3.size) (fun g hg => by injection hg with hg; subst hg; exact .inl (by simp)))
  obtain ⟨a5, c5, e5⟩ := own_slice hown
  obtain ⟨a6, c6, e6⟩ := own_slice r2
  refine ⟨v, v', w2, w3, fun W' hW => by rw [hv]; exact hl W' hW, ⟨_, _, _, e5⟩, ⟨_, _, _, e6⟩, fun ty => r1, p1, ⟨_, p2, fun y => ?_, ?_⟩, fun s hs => ⟨.of_own hown (fun e => hs e.symm) r3, (Kt.of_own hown (fun e => hs e.symm) r3).trans (Kt.of_map h1' p3)⟩, hB2, hB3⟩
  · unfold upd
    split
    · refine .inr ⟨v', _, rfl, rfl, ?_⟩
      have := own_kt r2 hT3
      simpa [cellsI] using this
    · rename_i hne
      rcases h2 y with e | ⟨u, L, e1, e2, hh⟩
      · exact .inl e
      · refine .inr ⟨u, L, e1, e2, own_kt (hh.kept r3 ?_) hT3⟩
        by_cases hn : u.ownBlock = none
        · exact .inl hn
        · right
          intro e
          cases hg : u.ownBlock with
          | none => exact hn hg
          | some g =>
            rw [hg] at e
            exact h3 x y v u g (fun e' => hne e'.symm) (hfx g e.symm) e1 e.symm hg
  · intro y z u q g hyz hu hq hg hqg
    unfold upd at hu hq
    have key : ∀ (y : κ) (u : Value), y ≠ x → F y = some u → v'.ownBlock = some g → u.ownBlock = some g → False := by
      intro y u hne hu hg hug
      rcases r4 with e | ⟨g', e, hge⟩
      · rw [hg] at e
        exact h3 x y v u g (fun e' => hne e'.symm) (hfx g e.symm) hu e.symm hug
      · rw [hg] at e
        injection e with e
        subst e
        rcases h2 y with ⟨e1, _⟩ | ⟨u', L, e1, _, hh⟩
        · rw [e1] at hu; cases hu
        · rw [e1] at hu
          injection hu with hu
          subst hu
          have := (hh.lt g hug).2
          omega
    split at hu
    · rename_i hyx
      injection hu with hu
      subst hu
      rw [if_neg (fun e => hyz (hyx.trans e.symm))] at hq
      exact key z q (fun e => hyz (hyx.trans e.symm)) hq hg hqg
    · rename_i hyx
      split at hq
      · injection hq with hq
        subst hq
        exact key y u hyx hu hqg hg
      · exact h3 y z u q g hyz hu hq hg hqg
theorem mapW_ent {κ : Type} [DecidableEq κ] {W : World} {base : Nat} {k : TypeId} {enc : κ → Value} {b : Nat} {H : κ → Option (List Int)} (h : MapW W base k enc b H) (K : Keyed Tryz.prog k) (hinj : ∀ x y, enc x = enc y → x = y) {t : TypeId} (ht : Tryz.prog.underlying t = some (.map k 57)) {x : κ} {l : Lit} (hk : keyOf Tryz.prog k (enc x) = some l) {g0 c : Nat} {id : Int} (ha : W.cell? ⟨g0, 0, none⟩ = some (.int .i64 id)) (hlen : ((H x).getD []).length ≤ 1000000) (hbase : base ≤ W.heap.size) :
    ∃ v v' w1 w2 w3 n, (∃ a n c, v = .slice a n c) ∧ (∃ a n c, v' = .slice a n c) ∧ (Instr.mapEntry t (.map (some b)) (enc x)).run Tryz.prog W = .ok (.tuple #[v, goInt n]) w1 ∧ (∀ ty, (Builtin.append_ #[57, 57] ty #[v, .slice (some ⟨g0, 0, none⟩) 1 c]).run Tryz.prog w1 = .ok v' w2) ∧ (Instr.entryStore t (.map (some b)) (goInt n) v').run Tryz.prog w2 = .ok () w3 ∧
      MapW w3 base k enc b (upd H x ((H x).getD [] ++ [id])) ∧ (∀ s, s ≠ 3 → Kt s W w1 ∧ Kt s W w2 ∧ Kt s W w3) ∧ Bx base [b] W w1 ∧ Bx base [b] W w2 ∧ Bx base [b] W w3 := by
  obtain ⟨F, h1, h2, h3⟩ := h
  obtain ⟨i0, hi, hz0, hz1, hz2⟩ := info_parts infoInt
  obtain ⟨w1, n, q1, q2, q3⟩ := h1.entry K hinj ht (zero60 W) hk
  have hT1 : Kt 3 W w1 := Kt.of_map h1 q3
  have hB1 : Bx base [b] W w1 := Bx.of_grown q3 hbase (fun g hg => by injection hg with hg; subst hg; exact .inl (by simp))
  obtain ⟨v, hv⟩ : ∃ v, v = (F x).getD (.slice none 0 0) := ⟨_, rfl⟩
  have hown : W.ownsRow base 3 1 v ((H x).getD []).length (cellsI ((H x).getD [])) := by
    rcases h2 x with ⟨e1, e2⟩ | ⟨u, L, e1, e2, hh⟩
    · rw [hv, e1, e2]; exact World.ownsRow_nil _ _ _ _
    · rw [hv, e1, e2]; exact hh
  have hfx : ∀ g, v.ownBlock = some g → F x = some v := by
    intro g hg
    rcases h2 x with ⟨e1, e2⟩ | ⟨u, L, e1, e2, hh⟩
    · rw [hv, e1] at hg; cases hg
    · rw [hv, e1]; rfl
  have hown1 := own_kt hown hT1
  have ha1 : w1.cell? ⟨g0, 0, none⟩ = some (.int .i64 id) := (but_map h1 q3).2 _ _ ha
  obtain ⟨v', w2, r1, r2, r3, r4, r5⟩ := append_at (P := Tryz.prog) w1 base 57 0 3 i0 _ 1 8 Tryz.underlying57 hi hz0 hz1 hz2 rfl (by decide) v _ _ hown1 ⟨g0, 0, none⟩ 1 c (by omega) [.int .i64 id] rfl (by
    intro j u hj
    cases j with
    | zero => simp at hj; subst hj; rw [Addr.add_lit]; exact ha1
    | succ j => simp at hj) (by intro u hu; simp at hu; subst hu; rfl) (by unfold maxLen; omega) (by omega) (Nat.le_trans hbase q3.size)
  have hbv : v.ownBlock ≠ some b := by
    intro e
    obtain ⟨es, clk, hm, _⟩ := h1
    rcases hown.2 with ⟨e0, _⟩ | ⟨g, cap, cur, e0, _, hg, _⟩
    · rw [e0] at e; cases e
    · rw [e0] at e
      injection e with e
      simp only at e
      subst e
      rw [hm] at hg
      cases hg
  have h1' : OwnE w2 Tryz.prog k enc b (upd F x ((F x).getD (.slice none 0 0))) x n := q2.of_block (r3.block b q2.m.lt (fun e => hbv e.symm))
  obtain ⟨w3, p1, p2, p3⟩ := h1'.store hinj t v'
  have hup : upd (upd F x ((F x).getD (.slice none 0 0))) x v' = upd F x v' := by
    funext y; unfold upd; split <;> rfl
  rw [hup] at p2
  have hT3 : Kt 3 w2 w3 := Kt.of_map h1'.m p3
  have hB2 : Bx base [b] W w2 := hB1.trans (Bx.of_grown r3 (Nat.le_trans hbase q3.size) (fun g hg => .inr (hown.lt g hg).1))
  have hB3 : Bx base [b] W w3 := hB2.trans (Bx.of_grown p3 (Nat.le_trans (Nat.le_trans hbase q3.size) r3.size) (fun g hg => by injection hg with hg; subst hg; exact .inl (by simp)))
  have hKs : ∀ s, s ≠ 3 → Kt s W w1 ∧ Kt s W w2 ∧ Kt s W w3 := fun s hs => by
    have k1 : Kt s W w1 := Kt.of_map h1 q3
    have k2 : Kt s W w2 := k1.trans (.of_own hown1 (fun e => hs e.symm) r3)
    exact ⟨k1, k2, k2.trans (Kt.of_map h1'.m p3)⟩
  obtain ⟨a5, c5, e5⟩ := own_slice hown
  obtain ⟨a6, c6, e6⟩ := own_slice r2
  refine ⟨v, v', w1, w2, w3, n, ⟨_, _, _, e5⟩, ⟨_, _, _, e6⟩, by rw [hv]; exact q1, fun ty => r1, p1, ⟨_, p2, fun y => ?_, ?_⟩, hKs, hB1, hB2, hB3⟩
  · unfold upd
    split
    · refine .inr ⟨v', _, rfl, rfl, ?_⟩
      have := own_kt r2 hT3
      simpa [cellsI] using this
    · rename_i hne
      rcases h2 y with e | ⟨u, L, e1, e2, hh⟩
      · exact .inl e
      · refine .inr ⟨u, L, e1, e2, own_kt ((own_kt hh hT1).kept r3 ?_) hT3⟩
        by_cases hn : u.ownBlock = none
        · exact .inl hn
        · right
          intro e
          cases hg : u.ownBlock with
          | none => exact hn hg
          | some g =>
            rw [hg] at e
            exact h3 x y v u g (fun e' => hne e'.symm) (hfx g e.symm) e1 e.symm hg
  · intro y z u q g hyz hu hq hg hqg
    unfold upd at hu hq
    have key : ∀ (y : κ) (u : Value), y ≠ x → F y = some u → v'.ownBlock = some g → u.ownBlock = some g → False := by
      intro y u hne hu hg hug
      rcases r4 with e | ⟨g', e, hge⟩
      · rw [hg] at e
        exact h3 x y v u g (fun e' => hne e'.symm) (hfx g e.symm) hu e.symm hug
      · rw [hg] at e
        injection e with e
        subst e
        rcases h2 y with ⟨e1, _⟩ | ⟨u', L, e1, _, hh⟩
        · rw [e1] at hu; cases hu
        · rw [e1] at hu
          injection hu with hu
          subst hu
          have := (hh.lt g hug).2
          have := q3.size
          omega
    split at hu
    · rename_i hyx
      injection hu with hu
      subst hu
      rw [if_neg (fun e => hyz (hyx.trans e.symm))] at hq
      exact key z q (fun e => hyz (hyx.trans e.symm)) hq hg hqg
    · rename_i hyx
      split at hq
      · injection hq with hq
        subst hq
        exact key y u hyx hu hqg hg
      · exact h3 y z u q g hyz hu hq hg hqg
end Go.Proofs.YtikjmingkadjcaaGreatDoor

/-
  What index.tablesOf makes, in plain functions; what its loops keep.
-/
namespace Go.Proofs.YtikjmingkadjcaaGreatDoor
open Go.RowKit
open Go.Maps (Keyed)
set_option linter.unusedVariables false
set_option linter.unusedSimpArgs false

abbrev TK := (ByteArray → Option (List Int)) × (KeyJ → Option Int)
def knO (H : ByteArray → Option Hp) (x : ByteArray) : List Nm := ((H x).map Hp.kn).getD []
def ksO (H : ByteArray → Option Hp) (x : ByteArray) : List Nm := ((H x).map Hp.ks).getD []
def rowA {κ : Type} [DecidableEq κ] (E : κ → Option (List Int)) (x : κ) (i : Int) : κ → Option (List Int) := upd E x ((E x).getD [] ++ [i])
def kinS (H : ByteArray → Option Hp) (n : Nd) (S : TK) (a : Nm) : TK := (rowA S.1 (bs a) n.id, noteF (bs a) (ksO H (bs a)) n.id S.2 n.rc)
def ndS (H : ByteArray → Option Hp) (S : TK) (n : Nd) : TK := (knO H n.kd).foldl (kinS H n) S
def tabK (H : ByteArray → Option Hp) (N : List Nd) : TK := N.foldl (ndS H) (fun _ => none, fun _ => none)
def enS (E : EndJ → Option (List Int)) (t : Te) : EndJ → Option (List Int) := rowA (rowA E (t.bd, t.fr, false) t.tt) (t.bd, t.tt, true) t.fr
def tabE (T : List Te) : EndJ → Option (List Int) := T.foldl enS (fun _ => none)
theorem rowA_len {κ : Type} [DecidableEq κ] {E : κ → Option (List Int)} {c : Nat} (h : ∀ x, ((E x).getD []).length ≤ c) (x : κ) (i : Int) : ∀ y, ((rowA E x i y).getD []).length ≤ c + 1 := by
  intro y
  unfold rowA upd
  split
  · have := h x; simp; omega
  · have := h y; omega

theorem MapHp.look2 {w : World} {base b : Nat} {H : ByteArray → Option Hp} (h : MapHp w base b H) {x : ByteArray} {l : Lit} (hk : keyOf Tryz.prog 9 (encS x) = some l) :
    ∃ a n c a' n' c', IsS w (.slice a n c) (knO H x) ∧ IsS w (.slice a' n' c') (ksO H x) ∧ ∀ W, W.heap[b]? = w.heap[b]? → (Instr.lookup 106 (.map (some b)) (.string x) false).run Tryz.prog W = .ok (.agg #[.slice a n c, .slice a' n' c']) W := by
  obtain ⟨F, h1, h2⟩ := h
  have hm := fun W (hW : W.heap[b]? = w.heap[b]?) => (h1.of_block hW).look keyedS encS_inj Tryz.underlying106 (zero90 W) hk false
  unfold knO ksO
  rcases h2 x with ⟨e1, e2⟩ | ⟨v, p, e1, e2, hh⟩
  · rw [e1] at hm
    rw [e2]
    exact ⟨none, 0, 0, none, 0, 0, .inl ⟨none, 0, rfl, rfl, Nat.zero_le _, fun _ => rfl⟩, .inl ⟨none, 0, rfl, rfl, Nat.zero_le _, fun _ => rfl⟩, hm⟩
  · rw [e1] at hm
    rw [e2]
    obtain ⟨vk, vs, rfl, o1, o2⟩ := hh
    obtain ⟨a1, c1, rfl⟩ := own_slice o1
    obtain ⟨a2, c2, rfl⟩ := own_slice o2
    exact ⟨_, _, _, _, _, _, own_isS o1, own_isS o2, hm⟩
theorem IsS.at {w : World} {v : Value} {l : List Nm} (h : IsS w v l) {k : Nat} {n : Nm} (hn : l[k]? = some n) : ∃ b off c, v = .slice (some ⟨b, off, none⟩) l.length c ∧ b < w.heap.size ∧ w.cell? ⟨b, off + k, none⟩ = some (.string (bs n)) := by
  rcases h with ⟨a, c, _, rfl, _⟩ | ⟨b, off, c, rfl, _, _, hb, hL⟩
  · simp at hn
  · exact ⟨b, off, c, rfl, hb, hL k n hn⟩
theorem Kt.of_bx {t : TypeId} {l : List Nat} {W w' : World} (h : Bx W.heap.size l W w') (hl : ∀ x ∈ l, ∃ es c, W.heap[x]? = some (.map es c)) : Kt t W w' := by
  refine ⟨h.size, fun b cs hb => ?_⟩
  refine (h.block b (Array.getElem?_eq_some_iff.1 hb).1 (fun hx => ?_)).trans hb
  obtain ⟨es, c, hm⟩ := hl b hx
  rw [hm] at hb
  cases hb
theorem OwnM.is_map {κ : Type} {w : World} {P : Program} {k : TypeId} {enc : κ → Value} {b : Nat} {F : κ → Option Value} (h : OwnM w P k enc b F) : ∃ es c, w.heap[b]? = some (.map es c) := by
  obtain ⟨es, c, hm, _⟩ := h
  exact ⟨es, c, hm⟩

def TI (W6 : World) (m1 m2 c : Nat) (S : TK) (wr : World) : Prop := MapW wr W6.heap.size 9 encS m1 S.1 ∧ MapJ wr m2 S.2 ∧ Bx W6.heap.size [m1, m2] W6 wr ∧ ∀ x, ((S.1 x).getD []).length ≤ c
theorem TI.on {W6 : World} {m1 m2 c : Nat} {S : TK} {wr w' : World} (h : TI W6 m1 m2 c S wr) (hB : Below wr.heap.size wr w') : TI W6 m1 m2 c S w' := by
  obtain ⟨h1, h2, h3, h4⟩ := h
  have hw1 := h1
  obtain ⟨F, q1, _⟩ := hw1
  exact ⟨h1.on (hB.block m1 q1.lt) (.of_below hB), OwnM.of_block h2 (hB.block m2 (OwnM.lt h2)), h3.trans (.of_below hB h3.size), h4⟩
theorem TI.le {W6 : World} {m1 m2 c c' : Nat} {S : TK} {wr : World} (h : TI W6 m1 m2 c S wr) (hc : c ≤ c') : TI W6 m1 m2 c' S wr := ⟨h.1, h.2.1, h.2.2.1, fun x => Nat.le_trans (h.2.2.2 x) hc⟩

abbrev idW (W : World) (id : Int) : World := (W.alloc (.cells #[.int .i64 id] 3)).drew
theorem ti_app {W6 W : World} {m1 m2 c : Nat} {S : TK} (h : TI W6 m1 m2 c S W) (hne : m1 ≠ m2) (hm2 : m2 < W6.heap.size) (hc : c ≤ 900000) {x : ByteArray} (hx : x.size ≤ maxLen) (id : Int) :
    ∃ a n k a' n' k' w2 w3, (Instr.lookup 108 (.map (some m1)) (.string x) false).run Tryz.prog W.drew = .ok (.slice a n k) W.drew ∧ (Instr.lookup 108 (.map (some m1)) (.string x) false).run Tryz.prog (idW W id) = .ok (.slice a n k) (idW W id) ∧
      (∀ ty, (Builtin.append_ #[57, 57] ty #[.slice a n k, .slice (some ⟨W.heap.size, 0, none⟩) 1 1]).run Tryz.prog (idW W id) = .ok (.slice a' n' k') w2) ∧ (Instr.mapUpdate 108 (.map (some m1)) (.string x) (.slice a' n' k')).run Tryz.prog w2 = .ok () w3 ∧
      MapW w3 W6.heap.size 9 encS m1 (rowA S.1 x id) ∧ MapJ w3 m2 S.2 ∧ Bx W6.heap.size [m1, m2] W6 w2 ∧ Bx W6.heap.size [m1, m2] W6 w3 ∧ ∀ s, s ≠ 3 → Kt s W w2 ∧ Kt s W w3 := by
  obtain ⟨h1, h2, h3, h4⟩ := h
  have hB : Below W.heap.size W (idW W id) := b_drew (b_alloc (Below.refl _ _) _)
  have hw1 := h1
  obtain ⟨F, q1, _⟩ := hw1
  have hm1 := hB.block m1 q1.lt
  have h1' : MapW (idW W id) W6.heap.size 9 encS m1 S.1 := h1.on hm1 (.of_below hB)
  obtain ⟨l, hl⟩ := keyS hx
  have hnew : (idW W id).heap[W.heap.size]? = some (.cells #[.int .i64 id] 3 (0, 0)) := heap_alloc_new W (.cells #[.int .i64 id] 3)
  obtain ⟨v, v', w2, w3, r1, ⟨a, n, k, rfl⟩, ⟨a', n', k', rfl⟩, r2, r3, r4, r5, r6, r7⟩ := mapW_app h1' keyedS encS_inj Tryz.underlying108 hl (g0 := W.heap.size) (c := 1) (id := id) (cell_at hnew rfl) (by have := h4 x; omega) (Nat.le_trans h3.size hB.size)
  have hbx : Bx W6.heap.size [m1, m2] W6 (idW W id) := h3.trans (.of_below hB h3.size)
  have hsub : ∀ y ∈ [m1], y ∈ [m1, m2] := fun y hy => by simp at hy ⊢; exact .inl hy
  have hKt : ∀ s, s ≠ 3 → Kt s W w2 ∧ Kt s W w3 := fun s hs => ⟨(Kt.of_below hB).trans (r5 s hs).1, (Kt.of_below hB).trans (r5 s hs).2⟩
  refine ⟨a, n, k, a', n', k', w2, w3, r1 W.drew (by rw [hm1]; rfl), r1 _ rfl, r2, r3, r4, ?_, hbx.trans (r6.sub hsub), hbx.trans (r7.sub hsub), hKt⟩
  have hJ : MapJ (idW W id) m2 S.2 := OwnM.of_block h2 (hB.block m2 (OwnM.lt h2))
  exact OwnM.of_block hJ (r7.block m2 hm2 (by simp; exact fun e => hne e.symm))
theorem ti_note {W6 w3 w4 : World} {m1 m2 c : Nat} {K : ByteArray → Option (List Int)} {G G' : KeyJ → Option Int} (hne : m1 ≠ m2) (h1 : MapW w3 W6.heap.size 9 encS m1 K) (h2 : MapJ w3 m2 G) (h3 : Bx W6.heap.size [m1, m2] W6 w3) (h4 : MapJ w4 m2 G') (hg : w3.grownBy w4 (some m2)) (hl : ∀ x, ((K x).getD []).length ≤ c) : TI W6 m1 m2 c (K, G') w4 := by
  have hw1 := h1
  obtain ⟨F, q1, _⟩ := hw1
  exact ⟨h1.on (hg.block m1 q1.lt (by simp; exact hne)) (Kt.of_map h2 hg), h4, h3.trans (.of_grown hg h3.size (fun g hg' => by injection hg' with hg'; subst hg'; exact .inl (by simp))), hl⟩
def TEn (W7 : World) (m3 c : Nat) (E : EndJ → Option (List Int)) (wr : World) : Prop := MapW wr W7.heap.size 172 encD m3 E ∧ Bx W7.heap.size [m3] W7 wr ∧ ∀ x, ((E x).getD []).length ≤ c
theorem TEn.on {W7 : World} {m3 c : Nat} {E : EndJ → Option (List Int)} {wr w' : World} (h : TEn W7 m3 c E wr) (hB : Below wr.heap.size wr w') : TEn W7 m3 c E w' := by
  obtain ⟨h1, h3, h4⟩ := h
  have hw1 := h1
  obtain ⟨F, q1, _⟩ := hw1
  exact ⟨h1.on (hB.block m3 q1.lt) (.of_below hB), h3.trans (.of_below hB h3.size), h4⟩
theorem TEn.le {W7 : World} {m3 c c' : Nat} {E : EndJ → Option (List Int)} {wr : World} (h : TEn W7 m3 c E wr) (hc : c ≤ c') : TEn W7 m3 c' E wr := ⟨h.1, h.2.1, fun x => Nat.le_trans (h.2.2 x) hc⟩
theorem te_app {W7 W : World} {m3 c : Nat} {E : EndJ → Option (List Int)} (h : TEn W7 m3 c E W) (hc : c ≤ 900000) {x : EndJ} (hx : x.1.size ≤ maxLen) (hn : in64 x.2.1) (i : Int) :
    ∃ a n k a' n' k' w1 w2 w3 q, (Instr.mapEntry 110 (.map (some m3)) (.agg #[.string x.1, .int .i64 x.2.1, .bool x.2.2])).run Tryz.prog (W.alloc (.cells #[.int .i64 i] 3)) = .ok (.tuple #[.slice a n k, .int .i64 q]) w1 ∧
      (∀ ty, (Builtin.append_ #[57, 57] ty #[.slice a n k, .slice (some ⟨W.heap.size, 0, none⟩) 1 1]).run Tryz.prog w1 = .ok (.slice a' n' k') w2) ∧ (Instr.entryStore 110 (.map (some m3)) (.int .i64 q) (.slice a' n' k')).run Tryz.prog w2 = .ok () w3 ∧
      TEn W7 m3 (c + 1) (rowA E x i) w3 ∧ ∀ s, s ≠ 3 → Kt s W w3 := by
  have hB : Below W.heap.size W (W.alloc (.cells #[.int .i64 i] 3)) := b_alloc (Below.refl _ _) _
  obtain ⟨h1', h3', h4⟩ := h.on hB
  obtain ⟨l, hl⟩ := keyD hx hn
  have hnew := heap_alloc_new W (.cells #[.int .i64 i] 3)
  obtain ⟨v, v', w1, w2, w3, q, ⟨a, n, k, rfl⟩, ⟨a', n', k', rfl⟩, r1, r2, r3, r4, r5, r6, r7, r8⟩ := mapW_ent h1' keyedD encD_inj Tryz.underlying110 hl (g0 := W.heap.size) (c := 1) (id := i) (cell_at hnew rfl) (by have := h4 x; omega) h3'.size
  exact ⟨a, n, k, a', n', k', w1, w2, w3, q, r1, r2, r3, ⟨r4, h3'.trans r8, rowA_len h4 x i⟩, fun s hs => (Kt.of_below hB).trans (r5 s hs).2.2⟩
end Go.Proofs.YtikjmingkadjcaaGreatDoor
