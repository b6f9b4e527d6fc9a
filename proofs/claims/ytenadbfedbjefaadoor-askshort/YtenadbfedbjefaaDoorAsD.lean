/-
  The law AskShort: the path that it makes, and its text; a round of its loop.
-/
import Derived.Test.YtenadbfedbjefaaDoorAsC
import Derived.Test.YtenadbfedbjefaaDoorTellsC
import Derived.Deep.DeepCutAuto
namespace Go.Proofs.YtenadbfedbjefaaDoor
open Go.RowKit
set_option linter.unusedVariables false
set_option linter.unusedSimpArgs false

theorem join_snoc (A : List Nm) (x sep : Nm) (h : ¬ A = []) : Lib.join (A ++ [x]) sep = Lib.join A sep ++ sep ++ x := by
  cases A with
  | nil => exact absurd rfl h
  | cons a r =>
    rw [List.cons_append, Lib.join_cons, Lib.join_cons]
    simp [Lib.joinTail]
theorem askT_first (kd : Nm) : askT [⟨[], false, kd⟩] = kd := by
  unfold askT; simp [wds, wdsT, Lib.join_cons, Lib.joinTail]
/-- What stands ahead of a kind that is not the first. -/
def arw (bk : Bool) : Nm := if bk = true then [32, 60, 45, 112, 45, 32] else [32, 45, 112, 45, 62, 32]
theorem askT_next {L : List St} (h : ¬ L = []) (bk : Bool) (kd : Nm) : askT (L ++ [⟨[112], bk, kd⟩]) = (askT L ++ arw bk) ++ kd := by
  have hw : ¬ wds L = [] := by
    cases L with
    | nil => exact absurd rfl h
    | cons a r => simp [wds]
  unfold askT
  rw [wds_app _ _ h, join_snoc _ _ _ (by simp), join_snoc _ _ _ hw]
  cases bk <;> simp [arw, bdT, ar0, ar1]
/-- All steps so far are right. -/
def OkE (L : List St) : Prop := ∀ k p, L[k]? = some p → OkS (decide (k = 0)) p
theorem okE_snoc {L : List St} (h : OkE L) {p : St} (hp : OkS (decide (L.length = 0)) p) : OkE (L ++ [p]) := by
  intro k q hq
  by_cases hk : k < L.length
  · rw [List.getElem?_append_left hk] at hq; exact h k q hq
  · have hl := (List.getElem?_eq_some_iff.1 hq).1
    simp at hl
    obtain rfl : k = L.length := by omega
    rw [List.getElem?_append_right (by omega), Nat.sub_self] at hq
    obtain rfl : p = q := by simpa using hq
    exact hp
theorem askT_len {L : List St} (h : OkE L) (hl : L.length ≤ 6) : (askT L).length ≤ 12012 := by
  have h1 := join_le (wds L) 32 1000 (wds_mem (fun p hp => by obtain ⟨j, hj⟩ := List.mem_iff_getElem?.1 hp; exact ⟨_, h j p hj⟩))
  have h2 := wds_len L
  have h3 : (1000 + 1) * (wds L).length ≤ (1000 + 1) * 12 := Nat.mul_le_mul_left _ (by omega)
  unfold askT
  have e : (Nat.toUInt8 32) = (32 : UInt8) := rfl
  rw [e] at h1
  omega
theorem flat4 {α : Type} (f : α → List Value) (h : ∀ x, (f x).length = 4) : ∀ (L : List α) (k : Nat) (x : α) (i : Nat), L[k]? = some x → i < 4 → (L.flatMap f)[k * 4 + i]? = (f x)[i]?
  | [], k, x, i, hx, _ => by simp at hx
  | a :: r, 0, x, i, hx, hi => by
    obtain rfl : a = x := by simpa using hx
    rw [List.flatMap_cons, List.getElem?_append_left (by rw [h]; omega)]; simp
  | a :: r, k + 1, x, i, hx, hi => by
    rw [List.flatMap_cons, List.getElem?_append_right (by rw [h]; omega), h]
    have := flat4 f h r k x i (by simpa using hx) hi
    rw [← this]; congr 1; omega
theorem own_liesS {w : World} {base : Nat} {v : Value} {L : List St} (h : w.ownsRow base 30 4 v L.length (cellsS L)) (hl : 0 < L.length) : ∃ g c, v = .slice (some ⟨g, 0, none⟩) L.length c ∧ g < w.heap.size ∧ LiesS w g 0 L := by
  have hc : ∀ g, v.ownBlock = some g → ∀ j u, (cellsS L)[j]? = some u → w.cell? ((⟨g, 0, none⟩ : Addr).add j) = some u := fun g hg => h.cells hg
  rcases h.2 with ⟨rfl, h0⟩ | ⟨g, cap, cur, rfl, hb, hg, hle, hcm, hcs, ht⟩
  · omega
  · refine ⟨g, cap, rfl, (Array.getElem?_eq_some_iff.1 hg).1, fun k p hp => ?_⟩
    have hat := flat4 St.cells (fun _ => rfl) L k p
    have d0 := hc g rfl _ _ ((hat 0 hp (by decide)).trans rfl)
    have d1 := hc g rfl _ _ ((hat 1 hp (by decide)).trans rfl)
    have d2 := hc g rfl _ _ ((hat 2 hp (by decide)).trans rfl)
    have d3 := hc g rfl _ _ ((hat 3 hp (by decide)).trans rfl)
    rw [Addr.add_lit] at d0 d1 d2 d3
    exact ⟨d0, by rw [Nat.add_assoc]; exact d1, by rw [Nat.add_assoc]; exact d2, by rw [Nat.add_assoc]; exact d3⟩
/-- Names that came in. -/
def IsNs (w : World) (v : Value) (n : Nat) (q : Nat → ByteArray) : Prop := ∃ ao c, v = .slice ao n c ∧ n ≤ maxLen ∧ (n = 0 ∨ ∃ b off, ao = some ⟨b, off, none⟩ ∧ b < w.heap.size ∧ ∀ k, k < n → w.cell? ⟨b, off + k, none⟩ = some (.string (q k)) ∧ (q k).size ≤ maxLen)
def IsBs (w : World) (v : Value) (n : Nat) (q : Nat → Bool) : Prop := ∃ ao c, v = .slice ao n c ∧ n ≤ maxLen ∧ (n = 0 ∨ ∃ b off, ao = some ⟨b, off, none⟩ ∧ b < w.heap.size ∧ ∀ k, k < n → w.cell? ⟨b, off + k, none⟩ = some (.bool (q k)))
/-- What stands between two rounds. -/
def AsI (w : World) (lv wv i : Value) (wr : World) : Prop := ∃ (k : Nat) (L : List St), k ≤ 6 ∧ i = .int .i64 (k : Int) ∧ wv = .string (bs (askT L)) ∧ wr.ownsRow w.heap.size 30 4 lv L.length (cellsS L) ∧ L.length ≤ k ∧ OkE L ∧ Below w.heap.size w wr
/-- The path has one step more. -/
theorem asI_step {w wr W w1 : World} {k : Nat} {L : List St} {p : St} {lv v1 : Value} (hk : k < 6) (hL : L.length ≤ k) (hE : OkE L) (hp : OkS (decide (L.length = 0)) p) (hB : Below w.heap.size w W) (ho : W.ownsRow w.heap.size 30 4 lv L.length (cellsS L)) {z : Nm} (hz : z = askT (L ++ [p])) (o : Obj) (hown : w1.ownsRow w.heap.size 30 4 v1 (L.length + 1) (cellsS L ++ p.cells)) (hg : (W.alloc o).grownBy w1 lv.ownBlock) :
    AsI w v1 (.string (bs z)) (.int .i64 ((k : Int) + 1)) w1 :=
  ⟨k + 1, L ++ [p], hk, by simp, by rw [hz], by rw [List.length_append, cellsS_snoc]; exact hown, by simp; omega, okE_snoc hE hp, below_grown (b_alloc hB _) hg (b_alloc hB _).size (fun j hj => (ho.lt j hj).1)⟩
end Go.Proofs.YtenadbfedbjefaaDoor
