/-
  Kinds that are added one by one, and dropped again: by reckoning; and what the law ChangeMany leaves between its calls.
-/
import Derived.Test.YtkmkhadacppdnaaDoorBkM
import Derived.Test.YtkmkhadacppdnaaDoorTellsC
import Derived.KernelRfl
namespace Go.Proofs.YtkmkhadacppdnaaDoor
open Go.RowKit
set_option linter.unusedVariables false
set_option linter.unusedSimpArgs false

theorem allA_kq {L M : List Kd} (h : M.map kq3 = L.map kq3) (B : List Bd) (c : Ch) : (allA M B [c]).1 = (allA L B [c]).1 ∧ (allA M B [c]).2.2.1.map kq3 = (allA L B [c]).2.2.1.map kq3 ∧ (allA M B [c]).2.2.2 = (allA L B [c]).2.2.2 := by
  rw [allA_one, allA_one, sErr_kq h, apE_kq h]
  split
  · split
    · exact ⟨rfl, cK_kq h c, rfl⟩
    · exact ⟨rfl, rfl, rfl⟩
  · exact ⟨rfl, rfl, rfl⟩
/-- Two letters of a number. -/
def nmL (i : Nat) : Nm := [97, UInt8.ofNat (97 + i)]
/-- A kind with nothing. -/
def kM (i : Nat) : Kd := ⟨nmL i, [], [], .slice none 0 0, .slice none 0 0⟩
/-- So many. -/
def rowM (n : Nat) : List Kd := (List.range n).map kM
def addC (i : Nat) : Ch := ⟨1, [], kM i, bd0, fd0, 0, 0, [], []⟩
def drpC (i : Nat) : Ch := ⟨2, nmL i, kd0, bd0, fd0, 0, 0, [], []⟩
set_option maxRecDepth 100000 in
theorem add_ok (i : Nat) (h : i < 12) : allA (rowM i) [] [addC i] = (0, 0, rowM (i + 1), []) := by
  obtain rfl | rfl | rfl | rfl | rfl | rfl | rfl | rfl | rfl | rfl | rfl | rfl : i = 0 ∨ i = 1 ∨ i = 2 ∨ i = 3 ∨ i = 4 ∨ i = 5 ∨ i = 6 ∨ i = 7 ∨ i = 8 ∨ i = 9 ∨ i = 10 ∨ i = 11 := by omega
  all_goals kernel_rfl
set_option maxRecDepth 100000 in
theorem add_no (i : Nat) (h1 : 12 ≤ i) (h2 : i < 15) : allA (rowM 12) [] [addC i] = (4, 0, [], []) := by
  obtain rfl | rfl | rfl : i = 12 ∨ i = 13 ∨ i = 14 := by omega
  all_goals kernel_rfl
set_option maxRecDepth 100000 in
theorem drp_ok (i : Nat) (h : i < 12) : allA (rowM (i + 1)) [] [drpC i] = (0, 0, rowM i, []) := by
  obtain rfl | rfl | rfl | rfl | rfl | rfl | rfl | rfl | rfl | rfl | rfl | rfl : i = 0 ∨ i = 1 ∨ i = 2 ∨ i = 3 ∨ i = 4 ∨ i = 5 ∨ i = 6 ∨ i = 7 ∨ i = 8 ∨ i = 9 ∨ i = 10 ∨ i = 11 := by omega
  all_goals kernel_rfl
set_option maxRecDepth 100000 in
theorem row_right (i : Nat) (h : i ≤ 12) : (sErr (rowM i) []).2 = 0 := by
  obtain rfl | rfl | rfl | rfl | rfl | rfl | rfl | rfl | rfl | rfl | rfl | rfl | rfl : i = 0 ∨ i = 1 ∨ i = 2 ∨ i = 3 ∨ i = 4 ∨ i = 5 ∨ i = 6 ∨ i = 7 ∨ i = 8 ∨ i = 9 ∨ i = 10 ∨ i = 11 ∨ i = 12 := by omega
  all_goals kernel_rfl
theorem rowM_len (n : Nat) : (rowM n).length = n := by simp [rowM]
theorem rowM_sz {i : Nat} (h : i ≤ 12) : SzK (rowM i) := (good_of (row_right i h)).1.sz
theorem rowM_at {n i : Nat} (h : i < n) : (rowM n)[i]? = some (kM i) := by
  unfold rowM
  rw [List.getElem?_map, List.getElem?_range h]
  rfl

set_option maxHeartbeats 8000000 in
theorem letters_any (k : Nat) (h2 : k < 15) (w : World) : Calls Tryd.prog 5 #[.int .i64 k] w fun e w' => e = .returned (.string (bs (nmL k))) ∧ Below w.heap.size w w' := by
  obtain rfl | rfl | rfl | rfl | rfl | rfl | rfl | rfl | rfl | rfl | rfl | rfl | rfl | rfl | rfl : k = 0 ∨ k = 1 ∨ k = 2 ∨ k = 3 ∨ k = 4 ∨ k = 5 ∨ k = 6 ∨ k = 7 ∨ k = 8 ∨ k = 9 ∨ k = 10 ∨ k = 11 ∨ k = 12 ∨ k = 13 ∨ k = 14 := by omega
  all_goals
    go_enter Tryd.func5, Tryd.ntmps5
    go_wp2_with fail
    go_quiet (fail)
    go_wp2
    go_ret
    exact ⟨rfl, b_drewN (Below.refl _ _) _⟩
set_option maxHeartbeats 4000000 in
theorem error_gen (x y : Int) (w : World) (hg : Hnd w) : Calls Tryd.prog 6 #[errV x, .int .i64 y] w fun e w' => e = .returned (.bool (x == y)) ∧ Below w.heap.size w w' := by
  go_enter Tryd.func6, Tryd.ntmps6
  go_wp2_with (go_at_call 8; refine (told_any x _ hg).mono ?_; rintro e w' ⟨rfl, hb⟩)
  go_ret
  exact ⟨rfl, hb⟩

/-- What a call of Do leaves behind it, in a block of its own. -/
def MnC (wr : World) (K : List Kd) (E s5 s6 : Value) (wx : World) : Prop := ∃ p2 un ut M, s5 = .pointer (some ⟨p2, 0, none⟩) ∧ s6 = E ∧ wr.heap.size ≤ p2 ∧ wx.heap[p2]? = some (.cells #[un, ut] 25 (0, 0)) ∧ OwnKs wx 0 un M ∧ OwnBs wx 0 ut [] ∧ M.map kq3 = K.map kq3 ∧ Below wr.heap.size wr wx
theorem mnC_alloc {wr W2 : World} {K M : List Kd} {E un ut : Value} {base : Nat} (hb : Below wr.heap.size wr W2) (hK : OwnKs W2 base un M) (hT : OwnBs W2 base ut []) (hM : M.map kq3 = K.map kq3) : MnC wr K E (.pointer (some ⟨W2.heap.size, 0, none⟩)) E (W2.alloc (.cells #[un, ut] 25)) := by
  have hba : Below W2.heap.size W2 (W2.alloc (.cells #[un, ut] 25)) := b_alloc (Below.refl _ _) _
  have hk := hK.kt (.of_below hba) (.of_below hba) (.of_below hba)
  exact ⟨_, un, ut, M, rfl, rfl, hb.size, heap_alloc_new W2 _, ⟨own_base hk.1 (Nat.zero_le _), fun k hk' => ⟨own_base (hk.2 k hk').1 (Nat.zero_le _), own_base (hk.2 k hk').2 (Nat.zero_le _)⟩⟩, own_base (own_kt hT (.of_below hba)) (Nat.zero_le _), hM, on1K hb hba (Nat.le_refl _)⟩
theorem mnC_set {wr W2 : World} {K M : List Kd} {E un ut a b : Value} {base p2 : Nat} (hp : wr.heap.size ≤ p2) (kb : W2.heap[p2]? = some (.cells #[a, b] 25 (0, 0))) (hb : Below wr.heap.size wr W2) (hK : OwnKs W2 base un M) (hT : OwnBs W2 base ut []) (hM : M.map kq3 = K.map kq3) : MnC wr K E (.pointer (some ⟨p2, 0, none⟩)) E ((W2.setCell ⟨p2, 0, none⟩ un).setCell ⟨p2, 1, none⟩ ut) := by
  have kk : ∀ t : TypeId, (25 : TypeId) ≠ t → Kt t W2 ((W2.setCell ⟨p2, 0, none⟩ un).setCell ⟨p2, 1, none⟩ ut) := fun t ht => ((Kt.refl _ _).ty ⟨_, kb⟩ ht _ _).ty (Ty.set ⟨_, kb⟩ _ _ _) ht _ _
  have hk := hK.kt (kk _ (by decide)) (kk _ (by decide)) (kk _ (by decide))
  exact ⟨p2, un, ut, M, rfl, rfl, hp, heap_setCell_same _ _ 1 _ 25 _ (heap_setCell_same W2 _ 0 _ 25 _ kb), ⟨own_base hk.1 (Nat.zero_le _), fun k hk' => ⟨own_base (hk.2 k hk').1 (Nat.zero_le _), own_base (hk.2 k hk').2 (Nat.zero_le _)⟩⟩, own_base (own_kt hT (kk _ (by decide))) (Nat.zero_le _), hM, (hb.setCell (p := ⟨p2, 0, none⟩) hp _).setCell (p := ⟨p2, 1, none⟩) hp _⟩
/-- The law's own schema: so many kinds. -/
def MnI (w : World) (m : Nat) (wr : World) : Prop := ∃ uk ub M, wr.heap[w.heap.size]? = some (.cells #[uk, ub] 25 (0, 0)) ∧ M.map kq3 = (rowM m).map kq3 ∧ OwnKs wr 0 uk M ∧ OwnBs wr 0 ub [] ∧ Below w.heap.size w wr
/-- It is what a call has left. -/
theorem mnI_set {w wr wx : World} {K : List Kd} {E s5 s6 : Value} {m : Nat} (h : MnI w m wr) (hc : MnC wr K E s5 s6 wx) {n : Nat} (hn : K = rowM n) : ∃ p2 un ut a b, s5 = .pointer (some ⟨p2, 0, none⟩) ∧ s6 = E ∧ wx.cell? ⟨p2, 0, none⟩ = some un ∧ wx.cell? ⟨p2, 1, none⟩ = some ut ∧ (∃ x c, un = .slice x n c) ∧ (∃ x c, ut = .slice x 0 c) ∧ wx.heap[w.heap.size]? = some (.cells #[a, b] 25 (0, 0)) ∧ wx.cell? ⟨w.heap.size, 0, none⟩ = some a ∧ wx.cell? ⟨w.heap.size, 1, none⟩ = some b ∧ wx.frozen? ⟨w.heap.size, 0, none⟩ = false ∧ wx.frozen? ⟨w.heap.size, 1, none⟩ = false ∧ (∀ W, Below wx.heap.size wx W → W.cell? ⟨p2, 0, none⟩ = some un ∧ W.cell? ⟨p2, 1, none⟩ = some ut ∧ W.cell? ⟨w.heap.size, 0, none⟩ = some a ∧ W.cell? ⟨w.heap.size, 1, none⟩ = some b ∧ W.frozen? ⟨w.heap.size, 0, none⟩ = false ∧ W.frozen? ⟨w.heap.size, 1, none⟩ = false ∧ MnI w n ((W.setCell ⟨w.heap.size, 0, none⟩ un).setCell ⟨w.heap.size, 1, none⟩ ut)) ∧ ∀ W, Below wx.heap.size wx W → MnI w m W := by
  obtain ⟨uk, ub, M0, h1, h2, h3, h4, h5⟩ := h
  obtain ⟨p2, un, ut, M, e1, e2, hp, c1, c2, c3, c4, c5⟩ := hc
  subst hn
  have hl : M.length = n := by have := congrArg List.length c4; simpa [rowM] using this
  have hx := (c5.block _ (Array.getElem?_eq_some_iff.1 h1).1).trans h1
  have hw := on1K h5 c5 (Nat.le_refl _)
  refine ⟨p2, un, ut, uk, ub, e1, e2, cell_at c1 rfl, cell_at c1 rfl, ?_, ?_, hx, cell_at hx rfl, cell_at hx rfl, frz_at hx, frz_at hx, fun W hb => ?_, fun W hb => ?_⟩
  · obtain ⟨a, c, e⟩ := own_slice c2.1; rw [hl] at e; exact ⟨a, c, e⟩
  · obtain ⟨a, c, e⟩ := own_slice c3; exact ⟨a, c, e⟩
  · have g1 := (hb.block _ (Array.getElem?_eq_some_iff.1 c1).1).trans c1
    have gx := (hb.block _ (Array.getElem?_eq_some_iff.1 hx).1).trans hx
    have gk := c2.kt (.of_below hb) (.of_below hb) (.of_below hb)
    have gt : OwnBs W 0 ut [] := own_kt c3 (.of_below hb)
    have kk : ∀ t : TypeId, (25 : TypeId) ≠ t → Kt t W ((W.setCell ⟨w.heap.size, 0, none⟩ un).setCell ⟨w.heap.size, 1, none⟩ ut) := fun t ht => ((Kt.refl _ _).ty ⟨_, gx⟩ ht _ _).ty (Ty.set ⟨_, gx⟩ _ _ _) ht _ _
    refine ⟨cell_at g1 rfl, cell_at g1 rfl, cell_at gx rfl, cell_at gx rfl, frz_at gx, frz_at gx, un, ut, M, heap_setCell_same _ _ 1 _ 25 _ (heap_setCell_same W _ 0 _ 25 _ gx), c4, gk.kt (kk _ (by decide)) (kk _ (by decide)) (kk _ (by decide)), own_kt gt (kk _ (by decide)), ?_⟩
    exact ((on1K hw hb (Nat.le_refl _)).setCell (p := ⟨w.heap.size, 0, none⟩) (Nat.le_refl _) _).setCell (p := ⟨w.heap.size, 1, none⟩) (Nat.le_refl _) _
  · have gb := on1K c5 hb (Nat.le_refl _)
    exact ⟨uk, ub, M0, (hb.block _ (Array.getElem?_eq_some_iff.1 hx).1).trans hx, h2, h3.kt (.of_below gb) (.of_below gb) (.of_below gb), own_kt h4 (.of_below gb), on1K h5 gb (Nat.le_refl _)⟩
/-- Do of a change on the law's schema. -/
theorem mn_do {w wr : World} {m : Nat} (hm : m ≤ 12) {uk ub : Value} {M : List Kd} (h2 : M.map kq3 = (rowM m).map kq3) (h3 : OwnKs wr 0 uk M) (h4 : OwnBs wr 0 ub []) (c : Ch) (hc : ∀ W, ChIs W c) (hz : ChSz c) {x : Int} {K : List Kd} (hr : allA (rowM m) [] [c] = (x, 0, K, [])) (W : World) (hb : Below wr.heap.size wr W) :
    Calls Tryd.prog 4 #[.agg #[uk, ub], c.one] W fun e w' => ∃ a7 c7 a8 c8, ∃ M7 : List Kd, e = .returned (.tuple #[.agg #[.slice a7 M7.length c7, .slice a8 0 c8], errV x]) ∧ M7.map kq3 = K.map kq3 ∧ OwnKs w' W.heap.size (.slice a7 M7.length c7) M7 ∧ OwnBs w' W.heap.size (.slice a8 0 c8) [] ∧ Below W.heap.size W w' := by
  have hk := h3.kt (.of_below hb) (.of_below hb) (.of_below hb)
  have ht : OwnBs W 0 ub [] := own_kt h4 (.of_below hb)
  have hd := do_any c hk.isK hk.parts (SzK_kq h2.symm (rowM_sz hm)) ht.isB (fun x hx => by cases hx) (hc W) hz
  refine hd.mono ?_
  rintro e w' ⟨un, ut, M7, he, hM7, hk7, ht7, hB7⟩
  obtain ⟨j1, j2, j3⟩ := allA_kq h2 [] c
  rw [hr] at j1 j2 j3
  rw [j1] at he
  rw [j2] at hM7
  rw [j3] at ht7
  obtain ⟨a7, c7, rfl⟩ := own_slice hk7.1
  obtain ⟨a8, c8, rfl⟩ := own_slice ht7
  exact ⟨a7, c7, a8, c8, M7, he, hM7, hk7, ht7, hB7⟩
end Go.Proofs.YtkmkhadacppdnaaDoor
