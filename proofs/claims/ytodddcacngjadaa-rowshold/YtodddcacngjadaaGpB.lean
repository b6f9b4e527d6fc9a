/-
  The map of counts, and the walk of Group.
-/
import Derived.Test.YtodddcacngjadaaGpA
import Derived.Deep.RegionHeld
import Derived.Deep.RegionHeld3
import Derived.Deep.RegionLaw
namespace Go.Proofs.Ytodddcacngjadaa
open Go.RowKit
set_option linter.unusedVariables false
set_option linter.unusedSimpArgs false

/-- All cells stay. -/
def Kp (w w' : World) : Prop := w.heap.size ≤ w'.heap.size ∧ ∀ a v, w.cell? a = some v → w'.cell? a = some v
theorem Kp.of_but {w w' : World} {b : Nat} {es : Array MapEntry} {c : Nat} (hb : w.heap[b]? = some (.map es c)) (h : w.grownBy w' (some b)) : Kp w w' := ⟨h.size, fun a v ha => by
  have hne : a.block ≠ b := by
    intro e
    unfold World.cell? at ha
    rw [e, hb] at ha
    cases ha
  exact (World.cell?_of_block (h.block a.block (cell_lt ha) (fun e => hne (by simpa using e)))).trans ha⟩
theorem Kp.trans {a b c : World} (h : Kp a b) (k : Kp b c) : Kp a c := ⟨Nat.le_trans h.1 k.1, fun x v hx => k.2 x v (h.2 x v hx)⟩
theorem but_map {w w' : World} {b : Nat} {F : V3 → Option Value} (h : OwnM w Try.prog 24 enc3 b F) (hg : w.grownBy w' (some b)) : Kp w w' := by
  obtain ⟨es, c, hm, _⟩ := h
  exact Kp.of_but hm hg
/-- How many of each there are. -/
def gm (l : List V3) : V3 → Option Value := fun x => if l.count x = 0 then none else some (.int .i64 (l.count x : Nat))
theorem gm_get (l : List V3) (x : V3) : (gm l x).getD (.int .i64 0) = .int .i64 (l.count x : Nat) := by
  unfold gm
  by_cases h : l.count x = 0
  · rw [if_pos h, h]; rfl
  · rw [if_neg h]; rfl
theorem gm_mem (l : List V3) (x : V3) : gm l x ≠ none ↔ x ∈ l := by
  unfold gm
  rw [← List.count_pos_iff]
  by_cases h : l.count x = 0
  · rw [if_pos h]; exact ⟨fun hh => absurd rfl hh, fun hh => by omega⟩
  · rw [if_neg h]; exact ⟨fun _ => by omega, fun _ hh => by cases hh⟩
theorem gm_nil : gm [] = fun _ => none := by funext x; unfold gm; simp
theorem gm_snoc (l : List V3) (x : V3) (z : Value) : upd (upd (gm l) x z) x (.int .i64 ((l.count x : Nat) + 1)) = gm (l ++ [x]) := by
  funext y
  unfold upd gm
  by_cases h : y = x
  · subst h
    rw [if_pos rfl, if_neg (by simp), List.count_append]
    simp
  · rw [if_neg h, if_neg h, List.count_append]
    have : List.count y [x] = 0 := by simp [List.count_singleton, Ne.symm h]
    rw [this, Nat.add_zero]
/-- One more of them. -/
theorem gm_more {W : World} {b : Nat} {l : List V3} (hm : OwnM W Try.prog 24 enc3 b (gm l)) {x : V3} {lt : Lit} (hk : keyOf Try.prog 24 (enc3 x) = some lt) {c : Int} (hc : (l.count x : Nat) = c) :
    ∃ (w2 w3 : World) (n : Nat), (Instr.lookup 55 (.map (some b)) (.agg #[.int .i64 x.t, .int .i64 x.n, .string x.s]) false).run Try.prog W = .ok (.int .i64 c) W ∧ (Instr.mapEntry 55 (.map (some b)) (.agg #[.int .i64 x.t, .int .i64 x.n, .string x.s])).run Try.prog W = .ok (.tuple #[.int .i64 c, .int .i64 n]) w2 ∧ (Instr.lookup 55 (.map (some b)) (.agg #[.int .i64 x.t, .int .i64 x.n, .string x.s]) false).run Try.prog w2 = .ok (.int .i64 c) w2 ∧ (Instr.entryStore 55 (.map (some b)) (.int .i64 n) (.int .i64 (c + 1))).run Try.prog w2 = .ok () w3 ∧ OwnM w3 Try.prog 24 enc3 b (gm (l ++ [x])) ∧ W.grownBy w2 (some b) ∧ W.grownBy w3 (some b) ∧ Kp W w2 ∧ Kp W w3 := by
  have e1 := OwnM.look hm keyed3 enc3_inj Try.underlying55 (zero3 W) hk false
  simp only [Bool.false_eq_true, if_false] at e1
  rw [gm_get, hc] at e1
  obtain ⟨w2, n, r1, r2, r3⟩ := OwnM.entry hm keyed3 enc3_inj Try.underlying55 (zero3 W) hk
  rw [gm_get, hc] at r1 r2
  have e2 := OwnM.look r2.m keyed3 enc3_inj Try.underlying55 (zero3 w2) hk false
  simp only [Bool.false_eq_true, if_false] at e2
  have e3 : (upd (gm l) x (.int .i64 c) x).getD (.int .i64 0) = .int .i64 c := by unfold upd; rw [if_pos rfl]; rfl
  rw [e3] at e2
  obtain ⟨w3, s1, s2, s3⟩ := r2.store enc3_inj 55 (.int .i64 (c + 1))
  have hK2 := but_map hm r3
  have hK3 := but_map r2.m s3
  refine ⟨w2, w3, n, e1, r1, e2, s1, ?_, r3, grown_trans r3 s3, hK2, hK2.trans hK3⟩
  rw [← hc, gm_snoc] at s2
  exact s2
/-- The sum of the counts. -/
theorem sum_count (l : List V3) : ∀ ss : List V3, ss.Nodup → (∀ x ∈ l, x ∈ ss) → (ss.map fun x => l.count x).sum = l.length := by
  induction l with
  | nil =>
    intro ss _ _
    have : ∀ ss : List V3, (ss.map fun x => ([] : List V3).count x).sum = 0 := by
      intro ss
      induction ss with
      | nil => rfl
      | cons a r ih => rw [List.map_cons, List.sum_cons, ih, List.count_nil]
    exact this ss
  | cons a r ih =>
    intro ss hnd hin
    have hr := ih ss hnd (fun x hx => hin x (List.mem_cons_of_mem _ hx))
    have ha : a ∈ ss := hin a (by simp)
    have key : ∀ ss : List V3, ss.Nodup → (ss.map fun x => (a :: r).count x).sum = (ss.map fun x => r.count x).sum + (if a ∈ ss then 1 else 0) := by
      intro ss
      induction ss with
      | nil => intro _; simp
      | cons b q ihq =>
        intro hnd
        obtain ⟨h1, h2⟩ := List.nodup_cons.1 hnd
        simp only [List.map_cons, List.sum_cons]
        rw [ihq h2]
        by_cases hab : a = b
        · subst hab
          rw [List.count_cons_self, if_neg h1, if_pos (by simp)]
          omega
        · rw [List.count_cons_of_ne hab]
          by_cases hq : a ∈ q
          · rw [if_pos hq, if_pos (List.mem_cons_of_mem _ hq)]; omega
          · rw [if_neg hq, if_neg (by simp [hab, hq])]; omega
    rw [key ss hnd, hr, if_pos ha]; rfl
theorem len_sub : ∀ (ss L : List V3), ss.Nodup → (∀ x ∈ ss, x ∈ L) → ss.length ≤ L.length
  | [], L, _, _ => Nat.zero_le _
  | a :: r, L, hnd, h => by
    obtain ⟨h1, h2⟩ := List.nodup_cons.1 hnd
    have ha := h a (by simp)
    have := len_sub r (L.erase a) h2 (fun x hx => (List.mem_erase_of_ne (fun e : x = a => h1 (by rw [← e]; exact hx))).2 (h x (List.mem_cons_of_mem _ hx)))
    rw [List.length_erase_of_mem ha] at this
    have : 0 < L.length := List.length_pos_of_mem ha
    simp; omega
end Go.Proofs.Ytodddcacngjadaa
