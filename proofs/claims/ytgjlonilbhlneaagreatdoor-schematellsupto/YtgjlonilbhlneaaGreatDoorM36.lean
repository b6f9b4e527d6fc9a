/-
  The line of a kind, as kinref1.ReadSchema reads it: what holds between two rounds over the words of its fields.
-/
import Derived.Test.YtgjlonilbhlneaaGreatDoorM34
namespace Go.Proofs.YtgjlonilbhlneaaGreatDoor
open Go.RowKit
set_option linter.unusedVariables false
set_option linter.unusedSimpArgs false

theorem FlS.row {W1 W2 : World} {kb : Nat} {x1 : Nm} {vo v : Value} {wr : World} (h : FlS W1 W2 kb x1 vo v wr) {base : Nat} {e : TypeId} {size : Nat} {u : Value} {n : Nat} {xs : List Value} (ho : W2.ownsRow base e size u n xs) {cs : Array Value} (hk : W2.heap[kb]? = some (.cells cs 55 (0, 0))) (hne : (55 : TypeId) ≠ e) : wr.ownsRow base e size u n xs := by
  have hap := row_apart ho hk hne
  refine ⟨ho.1, ?_⟩
  rcases ho.2 with h0 | ⟨b, cap, cur, rfl, hb, hbl, rest⟩
  · exact .inl h0
  · exact .inr ⟨b, cap, cur, rfl, hb, (h.old b (Array.getElem?_eq_some_iff.1 hbl).1 (fun e => hap (by rw [e]; rfl))).trans hbl, rest⟩
def FlI (W1 W2 : World) (kb : Nat) (x1 : Nm) (vo : Value) (ofs ws : List Nm) (n0 : Nat) (s11 s13 : Value) (wr : World) : Prop :=
  ∃ (j : Nat) (ok : Bool) (a : Option Addr) (n c : Nat), j ≤ ws.length ∧ s13 = .int .i64 ((n0 + j : Nat) : Int) ∧ s11 = .bool ok ∧ FlS W1 W2 kb x1 vo (.slice a n c) wr ∧ (ok = true → ofs.all wrd = true ∧ n = j ∧ ∃ fs : List Fd, (ws.take j).map rFd = fs.map some ∧ wr.ownsRow W2.heap.size 52 4 (.slice a n c) j (cellsF fs)) ∧ (ok = false → (ofs.all wrd && ws.all fun l => (rFd l).isSome) = false)
theorem fl_next {W1 W2 : World} {kb : Nat} {x1 x : Nm} {vo : Value} {ofs ws : List Nm} {n0 j : Nat} {fs : List Fd} {w' : World} {ok : Bool} {a' : Option Addr} {n' c' : Nat} (hx : ws[j]? = some x) (ho : ofs.all wrd = true) (hfs : (ws.take j).map rFd = fs.map some) (hF : FlS W1 W2 kb x1 vo (.slice a' n' c') w') (hg : ok = true → ∃ f, rFd x = some f ∧ n' = j + 1 ∧ w'.ownsRow W2.heap.size 52 4 (.slice a' n' c') (j + 1) (cellsF fs ++ f.cells)) (hb : ok = false → rFd x = none) :
    FlI W1 W2 kb x1 vo ofs ws n0 (.bool ok) (.int .i64 (((n0 + j : Nat) : Int) + 1)) w' := by
  have hj := (List.getElem?_eq_some_iff.1 hx).1
  refine ⟨j + 1, ok, a', n', c', by omega, by congr 1, rfl, hF, fun h => ?_, fun h => ?_⟩
  · obtain ⟨f, q1, q2, q3⟩ := hg h
    refine ⟨ho, q2, fs ++ [f], ?_, ?_⟩
    · rw [takeS hx, List.map_append, List.map_append, hfs]; simp [q1]
    · rw [cellsF_app, show cellsF [f] = f.cells by simp [cellsF]]; exact q3
  · have := hb h
    rw [ho, Bool.true_and, Bool.eq_false_iff]
    intro e
    have := List.all_eq_true.1 e x (List.mem_of_getElem? hx)
    rw [hb h] at this
    cases this
theorem map_some {ws : List Nm} {fs : List Fd} (h : ws.map rFd = fs.map some) : (ws.all fun l => (rFd l).isSome) = true ∧ ws.filterMap rFd = fs := by
  induction ws generalizing fs with
  | nil =>
    cases fs with
    | nil => exact ⟨rfl, rfl⟩
    | cons f r => simp at h
  | cons x r ih =>
    cases fs with
    | nil => simp at h
    | cons f r2 =>
      simp only [List.map_cons, List.cons.injEq] at h
      obtain ⟨i1, i2⟩ := ih h.2
      exact ⟨by rw [List.all_cons, i1, h.1]; rfl, by rw [List.filterMap_cons_some h.1, i2]⟩
theorem kd_good {P : List (Nm × List Nm × List Fd)} {Wd : List Nm} {x1 : Nm} {ofs ws : List Nm} {fs : List Fd} (hk : kdOf Wd = some (x1, ofs, ws)) (h1 : wrd x1 = true) (ho : ofs.all wrd = true) (hf : ws.map rFd = fs.map some) : rLine P [] Wd = some (P ++ [(x1, ofs, fs)], []) := by
  obtain ⟨i1, i2⟩ := map_some hf
  unfold rLine rKd
  rw [hk]
  simp only [List.isEmpty_nil, h1, ho, i1, Bool.and_self, if_true, i2]
theorem kd_bad {P : List (Nm × List Nm × List Fd)} {Wd : List Nm} {x0 x1 : Nm} {r ofs ws : List Nm} (hW : Wd = x0 :: x1 :: r) (h0 : (x0 == [98, 111, 110, 100]) = false) (hk : kdOf Wd = some (x1, ofs, ws)) (h1 : wrd x1 = true) (hb : (ofs.all wrd && ws.all fun l => (rFd l).isSome) = false) : rLine P [] Wd = none := by
  have hbd : rBd Wd = none := by
    rw [hW]
    unfold rBd
    split
    · rename_i k a b c x y e
      injection e with e1 _
      subst e1
      rw [if_neg]
      rw [show (x0 == wBond) = false from h0]
      simp
    · rfl
  unfold rLine rKd
  rw [hk]
  simp only [List.isEmpty_nil, h1, Bool.and_self, Bool.true_and]
  rw [hb]
  simp [hbd]
theorem rd_addK {s0 b2 : Nat} {w wE w1 : World} {L : List Kd} {B : List Bd} {ak ab : Option Addr} {ck cb : Nat} {vl : Value} {ls : List Nm} {a0 a1 : Option Addr} {n0 n1 c0 c1 : Nat} {x1 : Nm} {v1 : Value} (h : RdS s0 w L B (.slice ak L.length ck) (.slice ab B.length cb) vl ls wE) (hs : s0 ≤ w.heap.size) (hb2 : b2 = s0 + 2) (hg : (wE.alloc (.cells #[.string (bs x1), .slice a0 n0 c0, .slice a1 n1 c1] 55)).grownBy w1 (Value.slice ak L.length ck).ownBlock) :
    (w1.cell? ⟨b2, 0, none⟩ = some (.slice ak L.length ck) ∧ w1.frozen? ⟨b2, 0, none⟩ = false) ∧ (w1.setCell ⟨b2, 0, none⟩ v1).heap[s0]? = some (.cells #[.slice none 0 0, .slice none 0 0] 25 (0, 0)) ∧ Below s0 w (w1.setCell ⟨b2, 0, none⟩ v1) := by
  have hR := h.below hs (b_alloc (Below.refl _ wE) (Nat.le_refl _) (.cells #[.string (bs x1), .slice a0 n0 c0, .slice a1 n1 c1] 55))
  have st : ∀ {b : Nat} {cs : Array Value} {t : TypeId}, (wE.alloc (.cells #[.string (bs x1), .slice a0 n0 c0, .slice a1 n1 c1] 55)).heap[b]? = some (.cells cs t (0, 0)) → t ≠ 55 → w1.heap[b]? = some (.cells cs t (0, 0)) := fun {b cs t} hb ht => (hg.block b (Array.getElem?_eq_some_iff.1 hb).1 (fun e => row_apart hR.ok hb ht e.symm)).trans hb
  have h2 := st hR.r2 (by decide)
  subst hb2
  exact ⟨⟨cellB h2 rfl, frzB h2⟩, (heap_setCell_other w1 _ _ _ (by simp)).trans (st hR.r0 (by decide)), (bl_grown hR.bl hs hR.ok (by omega) hg).setCell (p := ⟨s0 + 2, 0, none⟩) (by simp) _⟩
end Go.Proofs.YtgjlonilbhlneaaGreatDoor
