/-
  The law ChangeTells: what its calls leave, in the words of one schema that lies in memory.
-/
import Derived.Test.YtkmkhadacppdnaaGreatDoorM39
import Derived.Test.YtkmkhadacppdnaaGreatDoorM42
import Derived.Test.YtkmkhadacppdnaaGreatDoorM43
namespace Go.Proofs.YtkmkhadacppdnaaGreatDoor
open Go.RowKit
set_option linter.unusedVariables false
set_option linter.unusedSimpArgs false

theorem IsC.on {w w' : World} {v : Value} {l : List Ch} (h : IsC w v l) (hB : Below w.heap.size w w') : IsC w' v l := by
  obtain ⟨ao, cp, e, hm, h⟩ := h
  refine ⟨ao, cp, e, hm, h.imp id ?_⟩
  rintro ⟨b, off, e, hb, hl⟩
  exact ⟨b, off, e, Nat.lt_of_lt_of_le hb hB.size, hl.on hb hB⟩
/-- All the cells of a block are slices. -/
def Sl (W : World) (p : Nat) : Prop := ∀ j v, W.cell? ⟨p, j, none⟩ = some v → ∃ a n c, v = .slice a n c
/-- Only one block is another. -/
def Oth (p : Nat) (W W' : World) : Prop := W.heap.size ≤ W'.heap.size ∧ ∀ g, g ≠ p → W'.heap[g]? = W.heap[g]?
theorem Oth.cell {p : Nat} {W W' : World} (h : Oth p W W') {g : Nat} (hg : g ≠ p) (i : Nat) : W'.cell? ⟨g, i, none⟩ = W.cell? ⟨g, i, none⟩ := World.cell?_of_block (a := ⟨g, i, none⟩) (h.2 g hg)
theorem sl_of {W : World} {p : Nat} {a b : Option Addr} {n c m d : Nat} (h : W.heap[p]? = some (.cells #[.slice a n c, .slice b m d] 25 (0, 0))) : Sl W p := by
  intro j v hv
  match j with
  | 0 => rw [cell_at h rfl] at hv; exact ⟨_, _, _, (Option.some.inj hv).symm⟩
  | 1 => rw [cell_at h rfl] at hv; exact ⟨_, _, _, (Option.some.inj hv).symm⟩
  | j + 2 => simp [World.cell?, h] at hv
theorem Sl.ne {W : World} {p b i : Nat} {s : ByteArray} (h : Sl W p) (hc : W.cell? ⟨b, i, none⟩ = some (.string s)) : b ≠ p := by
  rintro rfl
  obtain ⟨a, n, c, e⟩ := h _ _ hc
  cases e
theorem two_set {W : World} {p : Nat} {x0 y0 x y : Value} (h : W.heap[p]? = some (.cells #[x0, y0] 25 (0, 0))) : ((W.setCell ⟨p, 0, none⟩ x).setCell ⟨p, 1, none⟩ y).heap[p]? = some (.cells #[x, y] 25 (0, 0)) ∧ Oth p W ((W.setCell ⟨p, 0, none⟩ x).setCell ⟨p, 1, none⟩ y) :=
  ⟨heap_setCell_same _ _ 1 _ 25 _ (heap_setCell_same W _ 0 _ 25 _ h), by simp, fun g hg => (heap_setCell_other _ ⟨p, 1, none⟩ g y hg).trans (heap_setCell_other W ⟨p, 0, none⟩ g x hg)⟩
theorem IsS.oth {p : Nat} {W W' : World} (hp : Sl W p) (h : Oth p W W') {v : Value} {l : List Nm} (hS : IsS W v l) : IsS W' v l := by
  rcases hS with hS | ⟨b, off, cap, rfl, h1, h2, hb, hl⟩
  · exact .inl hS
  · refine .inr ⟨b, off, cap, rfl, h1, h2, Nat.lt_of_lt_of_le hb h.1, fun k n hk => ?_⟩
    exact (h.cell (hp.ne (hl k n hk)) _).trans (hl k n hk)
theorem IsF.oth {p : Nat} {W W' : World} (hp : Sl W p) (h : Oth p W W') {v : Value} {l : List Fd} (hS : IsF W v l) : IsF W' v l := by
  rcases hS with hS | ⟨b, off, cap, rfl, h1, h2, hb, hl⟩
  · exact .inl hS
  · refine .inr ⟨b, off, cap, rfl, h1, h2, Nat.lt_of_lt_of_le hb h.1, fun k n hk => ?_⟩
    obtain ⟨c0, c1, c2, c3⟩ := hl k n hk
    have hn := hp.ne c0
    exact ⟨(h.cell hn _).trans c0, (h.cell hn _).trans c1, (h.cell hn _).trans c2, (h.cell hn _).trans c3⟩
theorem IsK.oth {p : Nat} {W W' : World} (hp : Sl W p) (h : Oth p W W') {v : Value} {l : List Kd} (hS : IsK W v l) : IsK W' v l := by
  rcases hS with hS | ⟨b, off, cap, rfl, h1, h2, hb, hl⟩
  · exact .inl hS
  · refine .inr ⟨b, off, cap, rfl, h1, h2, Nat.lt_of_lt_of_le hb h.1, fun k n hk => ?_⟩
    obtain ⟨c0, c1, c2⟩ := hl k n hk
    have hn := hp.ne c0
    exact ⟨(h.cell hn _).trans c0, (h.cell hn _).trans c1, (h.cell hn _).trans c2⟩
theorem IsB.oth {p : Nat} {W W' : World} (hp : Sl W p) (h : Oth p W W') {v : Value} {l : List Bd} (hS : IsB W v l) : IsB W' v l := by
  rcases hS with hS | ⟨b, off, cap, rfl, h1, h2, hb, hl⟩
  · exact .inl hS
  · refine .inr ⟨b, off, cap, rfl, h1, h2, Nat.lt_of_lt_of_le hb h.1, fun k n hk => ?_⟩
    obtain ⟨c0, c1, c2, c3, c4⟩ := hl k n hk
    have hn := hp.ne c0
    exact ⟨(h.cell hn _).trans c0, (h.cell hn _).trans c1, (h.cell hn _).trans c2, (h.cell hn _).trans c3, (h.cell hn _).trans c4⟩

/-- A schema lies there. -/
def Sv (W : World) (uk ub : Value) (K : List Kd) (B : List Bd) : Prop := ∃ M, M.map kq3 = K.map kq3 ∧ IsK W uk M ∧ Parts W M ∧ IsB W ub B
theorem Sv.on {W W' : World} {uk ub : Value} {K : List Kd} {B : List Bd} (h : Sv W uk ub K B) (hB : Below W.heap.size W W') : Sv W' uk ub K B := by
  obtain ⟨M, h1, h2, h3, h4⟩ := h
  exact ⟨M, h1, h2.on hB, h3.on hB, h4.on hB⟩
theorem Sv.oth {p : Nat} {W W' : World} {uk ub : Value} {K : List Kd} {B : List Bd} (hp : Sl W p) (ho : Oth p W W') (h : Sv W uk ub K B) : Sv W' uk ub K B := by
  obtain ⟨M, h1, h2, h3, h4⟩ := h
  exact ⟨M, h1, h2.oth hp ho, fun k hk => ⟨(h3 k hk).1.oth hp ho, (h3 k hk).2.oth hp ho⟩, h4.oth hp ho⟩
theorem Sv.sl {W : World} {uk ub : Value} {K : List Kd} {B : List Bd} (h : Sv W uk ub K B) : ∃ a n c b m d, uk = .slice a n c ∧ ub = .slice b m d := by
  obtain ⟨M, h1, h2, h3, h4⟩ := h
  obtain ⟨a1, c1, e1, _⟩ := h2.sln
  obtain ⟨a2, c2, e2, _⟩ := h4.sln
  exact ⟨_, _, _, _, _, _, e1, e2⟩
theorem sv_nil (W : World) : Sv W (.slice none 0 0) (.slice none 0 0) [] [] := ⟨[], rfl, .inl ⟨rfl, rfl⟩, fun k hk => (by cases hk), .inl ⟨rfl, rfl⟩⟩
theorem sv_of {W : World} {uk ub : Value} {L : List Kd} {B : List Bd} (hK : IsK W uk L) (hP : Parts W L) (hb : IsB W ub B) : Sv W uk ub L B := ⟨L, rfl, hK, hP, hb⟩
theorem sErr_nil : (sErr [] []).2 = 0 := by kernel_rfl
theorem sv_same {W : World} {uk ub uk' ub' : Value} {K : List Kd} {B : List Bd} (h : Sv W uk ub K B) (h' : Sv W uk' ub' K B) (hr : (sErr K B).2 = 0) :
    Calls Tryz.prog 8 #[.agg #[uk, ub], .agg #[uk', ub']] W fun e w' => e = .returned (.bool true) ∧ Below W.heap.size W w' := by
  obtain ⟨M, h1, h2, h3, h4⟩ := h
  obtain ⟨M', h1', h2', h3', h4'⟩ := h'
  rw [← sErr_kq h1] at hr
  obtain ⟨hG, hn, hnb⟩ := good_of hr
  exact schema_same h2 h3 h4 h2' h3' h4' (h1.trans h1'.symm) (by omega) (by omega) (fun k hk => by have := hG.small k hk; omega)
theorem goC_right : ∀ (l : List Ch) (k : Nat) (L : List Kd) (B : List Bd), (sErr L B).2 = 0 → (sErr (goC l k L B).2.2.1 (goC l k L B).2.2.2).2 = 0
  | [], _, L, B, h => h
  | c :: r, k, L, B, h => by
    unfold goC
    split
    · rename_i h0
      exact goC_right r (k + 1) _ _ (apE_right h0)
    · exact sErr_nil
theorem allA_right (L : List Kd) (B : List Bd) (l : List Ch) : (sErr (allA L B l).2.2.1 (allA L B l).2.2.2).2 = 0 := by
  unfold allA
  split
  · exact sErr_nil
  · split
    · rename_i h; exact goC_right l 0 L B h
    · exact sErr_nil
theorem rchange_sv {w : World} {uk ub : Value} {L : List Kd} {B : List Bd} (c : Ch) (h : Sv w uk ub L B) (hz : SzK L) (hzb : SzB B) (hs : (sErr L B).2 = 0) (hc : ChIs w c) (hcz : ChSz c) :
    Calls Tryz.prog 5 #[.agg #[uk, ub], c.one] w fun e w' => ∃ a n c' b m d, e = .returned (.tuple #[.agg #[.slice a n c', .slice b m d], .int .i64 (apE L B c)]) ∧ Sv w' (.slice a n c') (.slice b m d) (if apE L B c = 0 then cK L c else []) (if apE L B c = 0 then cB B c else []) ∧ Below w.heap.size w w' := by
  obtain ⟨M, h1, h2, h3, h4⟩ := h
  refine (rchange_any c h2 h3 (SzK_kq h1.symm hz) h4 hzb (by rw [sErr_kq h1]; exact hs) hc hcz).mono ?_
  rintro e w' ⟨vk, vb, M', rfl, g1, g2, g3⟩
  rw [apE_kq h1] at g1 g2 ⊢
  by_cases h0 : apE L B c = 0
  · obtain ⟨j1, j2, j3, j4⟩ := g1 h0
    have hS : Sv w' vk vb (cK L c) (cB B c) := ⟨M', j1.trans (cK_kq h1 c), j2, j3, j4⟩
    obtain ⟨a, n, c', b, m, d, rfl, rfl⟩ := hS.sl
    rw [if_pos h0, if_pos h0]
    exact ⟨_, _, _, _, _, _, rfl, hS, g3⟩
  · obtain ⟨rfl, rfl⟩ := g2 h0
    rw [if_neg h0, if_neg h0]
    exact ⟨_, _, _, _, _, _, rfl, sv_nil _, g3⟩
theorem do_sv {w : World} {vk vb : Value} {L : List Kd} {B : List Bd} (c : Ch) (hK : IsK w vk L) (hP : Parts w L) (hz : SzK L) (hb : IsB w vb B) (hzb : SzB B) (hc : ChIs w c) (hcz : ChSz c) :
    Calls Tryz.prog 6 #[.agg #[vk, vb], c.one] w fun e w' => ∃ a n c' b m d, e = .returned (.tuple #[.agg #[.slice a n c', .slice b m d], errV (doE L B c)]) ∧ Sv w' (.slice a n c') (.slice b m d) (allA L B [c]).2.2.1 (allA L B [c]).2.2.2 ∧ Below w.heap.size w w' := by
  refine (do_any c hK hP hz hb hzb hc hcz).mono ?_
  rintro e w' ⟨uk, ub, M, he, h1, h2, h3, h4⟩
  rw [one_err] at he
  have hS : Sv w' uk ub (allA L B [c]).2.2.1 (allA L B [c]).2.2.2 := ⟨M, h1, h2.isK, h2.parts, OwnBs.isB h3⟩
  obtain ⟨a, n, c', b, m, d, rfl, rfl⟩ := hS.sl
  exact ⟨_, _, _, _, _, _, he, hS, h4⟩
theorem all_sv {w : World} {vk vb vl : Value} {L : List Kd} {B : List Bd} {l : List Ch} (hK : IsK w vk L) (hP : Parts w L) (hz : SzK L) (hb : IsB w vb B) (hzb : SzB B) (hl : IsC w vl l) (hlz : ∀ c ∈ l, ChSz c) :
    Calls Tryz.prog 12 #[.agg #[vk, vb], vl] w fun e w' => ∃ a n c' b m d, e = .returned (.tuple #[.agg #[.slice a n c', .slice b m d], .int .i64 (((allA L B l).2.1 : Nat) : Int), errV (allA L B l).1]) ∧ Sv w' (.slice a n c') (.slice b m d) (allA L B l).2.2.1 (allA L B l).2.2.2 ∧ Below w.heap.size w w' := by
  refine (all_any hK hP hz hb hzb hl hlz).mono ?_
  rintro e w' ⟨uk, ub, M, he, h1, h2, h3, h4⟩
  have hS : Sv w' uk ub (allA L B l).2.2.1 (allA L B l).2.2.2 := ⟨M, h1, h2.isK, h2.parts, OwnBs.isB h3⟩
  obtain ⟨a, n, c', b, m, d, rfl, rfl⟩ := hS.sl
  exact ⟨_, _, _, _, _, _, he, hS, h4⟩
/-- The boxes of the schema and of the change. -/
def Bx (w : World) (S C : Array Value) (W : World) : Prop := Below w.heap.size w W ∧ W.heap[w.heap.size]? = some (.cells S 25 (0, 0)) ∧ W.heap[w.heap.size + 1]? = some (.cells C 37 (0, 0))
theorem Bx.on {w W W' : World} {S C : Array Value} (h : Bx w S C W) (hB : Below W.heap.size W W') : Bx w S C W' := ⟨on1K h.1 hB (Nat.le_refl _), (hB.block _ (Array.getElem?_eq_some_iff.1 h.2.1).1).trans h.2.1, (hB.block _ (Array.getElem?_eq_some_iff.1 h.2.2).1).trans h.2.2⟩
theorem Bx.size {w W : World} {S C : Array Value} (h : Bx w S C W) : w.heap.size + 2 ≤ W.heap.size := (Array.getElem?_eq_some_iff.1 h.2.2).1
theorem Bx.two {w W : World} {S C : Array Value} (h : Bx w S C W) {p : Nat} (hp : w.heap.size + 2 ≤ p) (x y : Value) : Bx w S C ((W.setCell ⟨p, 0, none⟩ x).setCell ⟨p, 1, none⟩ y) :=
  ⟨(h.1.setCell (p := ⟨p, 0, none⟩) (by show w.heap.size ≤ p; omega) x).setCell (p := ⟨p, 1, none⟩) (by show w.heap.size ≤ p; omega) y, ((heap_setCell_other _ ⟨p, 1, none⟩ _ y (by show w.heap.size ≠ p; omega)).trans (heap_setCell_other W ⟨p, 0, none⟩ _ x (by show w.heap.size ≠ p; omega))).trans h.2.1, ((heap_setCell_other _ ⟨p, 1, none⟩ _ y (by show w.heap.size + 1 ≠ p; omega)).trans (heap_setCell_other W ⟨p, 0, none⟩ _ x (by show w.heap.size + 1 ≠ p; omega))).trans h.2.2⟩
/-- A box of two slices. -/
def Two (W : World) (p : Nat) (x y : Value) : Prop := W.heap[p]? = some (.cells #[x, y] 25 (0, 0)) ∧ (∃ a n c, x = .slice a n c) ∧ ∃ a n c, y = .slice a n c
theorem Two.on {W W' : World} {p : Nat} {x y : Value} (h : Two W p x y) (hB : Below W.heap.size W W') : Two W' p x y := ⟨(hB.block _ (Array.getElem?_eq_some_iff.1 h.1).1).trans h.1, h.2⟩
theorem Two.sl {W : World} {p : Nat} {x y : Value} (h : Two W p x y) : Sl W p := by
  obtain ⟨h1, ⟨a, n, c, rfl⟩, ⟨b, m, d, rfl⟩⟩ := h
  exact sl_of h1
theorem Two.oth {W W' : World} {p q : Nat} {x y : Value} (h : Two W p x y) (hne : p ≠ q) (ho : Oth q W W') : Two W' p x y := ⟨(ho.2 p hne).trans h.1, h.2⟩
/-- What a change in the loop leaves: its own box, and the fault. -/
def LwC (wr : World) (K : List Kd) (B : List Bd) (x : Int) (s19 s20 : Value) (wx : World) : Prop := ∃ p un ut, s19 = .pointer (some ⟨p, 0, none⟩) ∧ s20 = .int .i64 x ∧ wr.heap.size ≤ p ∧ Two wx p un ut ∧ Sv wx un ut K B ∧ Below wr.heap.size wr wx
theorem lwC_alloc {wr W2 : World} {K : List Kd} {B : List Bd} {x : Int} {a b : Option Addr} {n c m d : Nat} (hb : Below wr.heap.size wr W2) (hS : Sv W2 (.slice a n c) (.slice b m d) K B) : LwC wr K B x (.pointer (some ⟨W2.heap.size, 0, none⟩)) (.int .i64 x) (W2.alloc (.cells #[.slice a n c, .slice b m d] 25)) := by
  have hba : Below W2.heap.size W2 (W2.alloc (.cells #[.slice a n c, .slice b m d] 25)) := b_alloc (Below.refl _ _) _
  exact ⟨_, _, _, rfl, rfl, hb.size, ⟨heap_alloc_new W2 _, ⟨_, _, _, rfl⟩, ⟨_, _, _, rfl⟩⟩, hS.on hba, on1K hb hba (Nat.le_refl _)⟩
theorem lwC_set {wr W2 : World} {K : List Kd} {B : List Bd} {x : Int} {a b : Option Addr} {n c m d p : Nat} (hp : wr.heap.size ≤ p) (kb : W2.heap[p]? = some (.cells #[.slice none 0 0, .slice none 0 0] 25 (0, 0))) (hb : Below wr.heap.size wr W2) (hS : Sv W2 (.slice a n c) (.slice b m d) K B) : LwC wr K B x (.pointer (some ⟨p, 0, none⟩)) (.int .i64 x) ((W2.setCell ⟨p, 0, none⟩ (.slice a n c)).setCell ⟨p, 1, none⟩ (.slice b m d)) := by
  obtain ⟨h1, h2⟩ := two_set (x := .slice a n c) (y := .slice b m d) kb
  exact ⟨p, _, _, rfl, rfl, hp, ⟨h1, ⟨_, _, _, rfl⟩, ⟨_, _, _, rfl⟩⟩, hS.oth (sl_of kb) h2, (hb.setCell (p := ⟨p, 0, none⟩) hp _).setCell (p := ⟨p, 1, none⟩) hp _⟩
/-- Between two rounds of the law's loop. -/
def LwI (w : World) (S C : Array Value) (p9 p10 : Nat) (L : List Kd) (B : List Bd) (l : List Ch) (k : Nat) (e : Int) (W : World) : Prop :=
  Bx w S C W ∧ (∃ x y, Two W p10 x y) ∧ ∃ uk ub Lk Bk, Two W p9 uk ub ∧ (e = 0 → allA L B l = goC (l.drop k) k Lk Bk ∧ (sErr Lk Bk).2 = 0 ∧ SzK Lk ∧ SzB Bk ∧ Sv W uk ub Lk Bk) ∧ (¬ e = 0 → allA L B l = (e, k, [], []))
end Go.Proofs.YtkmkhadacppdnaaGreatDoor
