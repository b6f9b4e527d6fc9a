/-
  What the walk of the law SchemaBack asks of Parse: at a text that reads, at one that does not, at the fact's text, at a right schema's own text.
-/
import Derived.Test.YtgjlonilbhlneaaGreatDoorM23
namespace Go.Proofs.YtgjlonilbhlneaaGreatDoor
open Go.RowKit
set_option linter.unusedVariables false
set_option linter.unusedSimpArgs false

theorem parse_calls (x : Nm) (hx : x.length ≤ 90000000) (w : World) (hE : EV w) : Calls Tryz.prog 11 #[.string (bs x)] w (PaPost x w) := callsIn_wide.1 (parse_any 9 (by omega) x hx w hE)
def PaOk (x : Nm) : Prop := ∃ L B, lnFold (linesL x) = some (L.map kq, B) ∧ (sErr L B).2 = 0
def YesPost (x : Nm) (w : World) (e : Ending) (w' : World) : Prop := ∃ ak ck ab cb L B, e = .returned (.tuple #[.agg #[.slice ak L.length ck, .slice ab B.length cb], .int .i64 0, .nilIface]) ∧ (lnFold (linesL x) = some (L.map kq, B) ∧ (sErr L B).2 = 0 ∧ IsK w' (.slice ak L.length ck) L ∧ Parts w' L ∧ IsB w' (.slice ab B.length cb) B) ∧ Below w.heap.size w w'
theorem fold_same {x : Nm} {L L' : List Kd} {B B' : List Bd} (h : lnFold (linesL x) = some (L.map kq, B)) (h' : lnFold (linesL x) = some (L'.map kq, B')) : L.map kq = L'.map kq ∧ B = B' := by
  rw [h] at h'
  injection h' with h'
  injection h' with e1 e2
  exact ⟨e1, e2⟩
theorem parse_yes {x : Nm} {w : World} (hx : x.length ≤ 90000000) (hE : EV w) (h : PaOk x) : Calls Tryz.prog 11 #[.string (bs x)] w (YesPost x w) := by
  refine (parse_calls x hx w hE).mono ?_
  rintro e w' ⟨ak, nk, ck, ab, nb, cb, at', z, rfl, hB, h0, h1⟩
  by_cases hz : z = 0
  · obtain ⟨rfl, L, B, q1, q2, q3, q4, q5⟩ := h0 hz
    subst hz
    obtain ⟨a', c', e1, _⟩ := q3.sln
    obtain ⟨a'', c'', e2⟩ : ∃ ab' cb', Value.slice ab nb cb = .slice ab' B.length cb' := by
      rcases q5 with ⟨e, rfl⟩ | ⟨b, off, cap, e, _⟩
      · exact ⟨none, 0, e⟩
      · exact ⟨_, _, e⟩
    injection e1 with _ e1 _
    injection e2 with _ e2 _
    subst e1 e2
    exact ⟨ak, ck, ab, cb, L, B, rfl, ⟨q1, q2, q3, q4, q5⟩, hB⟩
  · exfalso
    obtain ⟨L, B, g1, g2⟩ := h
    rcases (h1 hz).2 with ⟨q1, _⟩ | ⟨_, L', B', q1, q2⟩
    · rw [g1] at q1; cases q1
    · obtain ⟨e1, rfl⟩ := fold_same g1 q1
      rw [sErr_kq e1, q2] at g2
      exact hz g2
theorem parse_no {x : Nm} {w : World} (hx : x.length ≤ 90000000) (hE : EV w) (h : ¬ PaOk x) : Calls Tryz.prog 11 #[.string (bs x)] w fun e w' => ∃ ak nk ck ab nb cb, ∃ at' z : Int, e = .returned (.tuple #[.agg #[.slice ak nk ck, .slice ab nb cb], .int .i64 at', .iface 60 (.int .i64 z)]) ∧ Below w.heap.size w w' := by
  refine (parse_calls x hx w hE).mono ?_
  rintro e w' ⟨ak, nk, ck, ab, nb, cb, at', z, rfl, hB, h0, h1⟩
  by_cases hz : z = 0
  · obtain ⟨_, L, B, q1, q2, _⟩ := h0 hz
    exact absurd ⟨L, B, q1, q2⟩ h
  · exact ⟨ak, nk, ck, ab, nb, cb, at', z, by rw [errV_ne hz], hB⟩
def fact0 : Nm := [107, 105, 110, 100, 32, 97, 32, 120, 58, 105, 110, 116, 42, 10, 107, 105, 110, 100, 32, 98, 32, 111, 102, 32, 97, 32, 121, 58, 116, 101, 120, 116, 33, 10, 98, 111, 110, 100, 32, 112, 32, 97, 32, 98, 32, 48, 32, 97, 110, 121, 10]
def factL : List Kd := [⟨[97], [], [⟨[120], 1, true, true⟩], .nilIface, .nilIface⟩, ⟨[98], [[97]], [⟨[121], 3, true, false⟩], .nilIface, .nilIface⟩]
def factB : List Bd := [⟨[112], [97], [98], 0, -1⟩]
theorem fact_err : (sErr factL factB).2 = 0 := by rfl
theorem fact_text : sText factL factB = fact0 := by decide +kernel
theorem fact_fold : lnFold (linesL fact0) = some (factL.map kq, factB) := by rw [← fact_text]; exact print_parse fact_err
theorem nErr_short {l : Nm} (h : nErr l = 0) : l.length ≤ 8 := by
  unfold nErr at h
  by_cases h1 : l = []
  · rw [if_pos h1] at h; cases h
  · rw [if_neg h1] at h
    by_cases h2 : 8 < l.length
    · rw [if_pos h2] at h; cases h
    · omega
theorem parse_fact {w : World} (hE : EV w) : Calls Tryz.prog 11 #[.string (bs fact0)] w fun e w' => ∃ k0 ck b0 cb f0 cf, ∃ of0 ff0 bf0 : Nat, e = .returned (.tuple #[.agg #[.slice (some ⟨k0, of0, none⟩) 2 ck, .slice (some ⟨b0, bf0, none⟩) 1 cb], .int .i64 0, .nilIface]) ∧ (w'.cell? ⟨k0, of0 + 2, none⟩ = some (.slice (some ⟨f0, ff0, none⟩) 1 cf) ∧ w'.cell? ⟨f0, ff0 + 3, none⟩ = some (.bool true) ∧ w'.cell? ⟨b0, bf0 + 4, none⟩ = some (.int .i64 (-1))) ∧ Below w.heap.size w w' := by
  refine (parse_yes (by decide) hE ⟨factL, factB, fact_fold, fact_err⟩).mono ?_
  rintro e w' ⟨ak, ck, ab, cb, L, B, rfl, ⟨q1, q2, q3, q4, q5⟩, hB⟩
  obtain ⟨e1, rfl⟩ := fold_same fact_fold q1
  have hl : L.length = 2 := by have := congrArg List.length e1; simpa [factL] using this.symm
  obtain ⟨k, k2, rfl⟩ : ∃ k k2, L = [k, k2] := by
    match L, hl with
    | [k, k2], _ => exact ⟨k, k2, rfl⟩
  simp only [factL, List.map_cons, List.map_nil, kq, List.cons.injEq, Prod.mk.injEq, and_true] at e1
  obtain ⟨⟨n1, n2, n3⟩, _⟩ := e1
  rcases q3 with ⟨_, h0⟩ | ⟨b, off, cap, e3, _, _, _, hl3⟩
  · cases h0
  injection e3 with e3 _ e3'
  subst e3 e3'
  rcases q5 with ⟨_, h0⟩ | ⟨b', off', cap', e5, _, _, _, hl5⟩
  · cases h0
  injection e5 with e5 _ e5'
  subst e5 e5'
  obtain ⟨_, _, m2⟩ := hl3 0 k rfl
  obtain ⟨_, _, _, _, m5⟩ := hl5 0 ⟨[112], [97], [98], 0, -1⟩ rfl
  have hf := (q4 k (by simp)).2
  rw [← n3] at hf
  rcases hf with ⟨_, _, _, h0, _⟩ | ⟨bf, of, cf, e6, _, _, _, hl6⟩
  · cases h0
  obtain ⟨_, _, _, m6⟩ := hl6 0 ⟨[120], 1, true, true⟩ rfl
  rw [e6] at m2
  exact ⟨b, _, b', _, bf, cf, off, of, off', rfl, ⟨by simpa using m2, by simpa using m6, by simpa using m5⟩, hB⟩
theorem text_len {L : List Kd} {B : List Bd} (h : (sErr L B).2 = 0) : (sText L B).length ≤ 90000000 := by
  obtain ⟨hks, hGB, hB12⟩ := sErr_good.1 h
  obtain ⟨hG, hL12⟩ := ksErr_good.1 hks
  have fl : ∀ {α : Type} (f : α → Nm) (m : Nat) (l : List α), (∀ x ∈ l, (f x).length ≤ m) → (l.flatMap f).length ≤ l.length * m := by
    intro α f m l
    induction l with
    | nil => intro _; simp
    | cons a r ih =>
      intro h
      have h1 := h a (by simp)
      have h2 := ih (fun x hx => h x (List.mem_cons_of_mem _ hx))
      rw [List.flatMap_cons, List.length_append, List.length_cons, Nat.add_mul]
      omega
  have h1 : (kText L).length ≤ L.length * 1000 := fl _ 1000 L fun k hk => by
    have := kLine_len k (good_ok hG hk) (by
      have := (nErr_short (good_name hG hk))
      exact this)
    unfold lineL
    rw [List.length_append]
    simp only [List.length_cons, List.length_nil]
    omega
  have h2 : (bText B).length ≤ B.length * 1000 := fl _ 1000 B fun x hx => by
    have h3 := bWords_len x (good_bond hG hGB hx)
    have h4 := join_len (bWords x) [32] 21 h3
    unfold lineL
    rw [List.length_append]
    simp only [List.length_cons, List.length_nil, bWords] at h4 ⊢
    omega
  unfold sText
  rw [List.length_append]
  have := Nat.mul_le_mul_right 1000 hL12
  have := Nat.mul_le_mul_right 1000 hB12
  omega
theorem parse_good {L : List Kd} {B : List Bd} {w : World} (h : (sErr L B).2 = 0) (hE : EV w) : Calls Tryz.prog 11 #[.string (bs (sText L B))] w fun e w' => ∃ ak ck ab cb L', e = .returned (.tuple #[.agg #[.slice ak L'.length ck, .slice ab B.length cb], .int .i64 0, .nilIface]) ∧ (L'.map kq = L.map kq ∧ IsK w' (.slice ak L'.length ck) L' ∧ Parts w' L' ∧ IsB w' (.slice ab B.length cb) B) ∧ Below w.heap.size w w' := by
  refine (parse_yes (text_len h) hE ⟨L, B, print_parse h, h⟩).mono ?_
  rintro e w' ⟨ak, ck, ab, cb, L', B', rfl, ⟨q1, q2, q3, q4, q5⟩, hB⟩
  obtain ⟨e1, rfl⟩ := fold_same (print_parse h) q1
  exact ⟨ak, ck, ab, cb, L', rfl, ⟨e1.symm, q3, q4, q5⟩, hB⟩
end Go.Proofs.YtgjlonilbhlneaaGreatDoor
