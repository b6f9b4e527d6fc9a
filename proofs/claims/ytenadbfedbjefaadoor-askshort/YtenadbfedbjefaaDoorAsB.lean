/-
  A path of kinds and bonds alone as text: the walk of Print.
-/
import Derived.Test.YtenadbfedbjefaaDoorAsA
import Derived.Test.YtenadbfedbjefaaDoorShelf
import Derived.Laws.Concat
namespace Go.Proofs.YtenadbfedbjefaaDoor
open Go.RowKit
set_option linter.unusedVariables false
set_option linter.unusedSimpArgs false

/-- The arrow. -/
def ar0 (back : Bool) : Nm := if back = true then [60, 45] else [45]
def ar1 (back : Bool) : Nm := if back = true then [45] else [45, 62]
def bdT (p : St) : Nm := ar0 p.back ++ p.bd ++ ar1 p.back
/-- The words of the steps behind the first. -/
def wdsT : List St → List Nm
  | [] => []
  | p :: r => bdT p :: p.kd :: wdsT r
def wds : List St → List Nm
  | [] => []
  | p :: r => p.kd :: wdsT r
/-- A path as text. -/
def askT (l : List St) : Nm := Lib.join (wds l) [32]

theorem arrow_any (bk : Bool) (w : World) : Calls Tryd.prog 15 #[.bool bk] w fun e w' => e = .returned (.agg #[.string (bs (ar0 bk)), .string (bs (ar1 bk))]) ∧ Below w.heap.size w w' := by
  cases bk with
  | true =>
    go_enter Tryd.func15, Tryd.ntmps15
    go_wp2
    exact bodyPost_ret (v := .agg #[.string ⟨#[60, 45]⟩, .string ⟨#[45]⟩]) (by simp [results, Tryd.results15, go_sem]) rfl ⟨rfl, (Below.refl _ w).alloc (Nat.le_refl _) _⟩
  | false =>
    go_enter Tryd.func15, Tryd.ntmps15
    go_wp2
    exact bodyPost_ret (v := .agg #[.string ⟨#[45]⟩, .string ⟨#[45, 62]⟩]) (by simp [results, Tryd.results15, go_sem]) rfl ⟨rfl, (Below.refl _ w).alloc (Nat.le_refl _) _⟩
theorem ar_len (bk : Bool) : (ar0 bk).length ≤ 2 ∧ (ar1 bk).length ≤ 2 := by cases bk <;> decide
theorem catB (x y : Nm) (hx : x.length ≤ 8388608) (hy : y.length ≤ 8388608) (w : World) : (Op.stringOp .add (bs x) (bs y)).run Tryd.prog w = .ok (.string (bs (x ++ y))) w := run_string_add_lists w x y (by omega) (by omega)
/-- Two texts, one behind the other. -/
theorem catX (x y : Nm) (hx : x.length ≤ 4000000) (hy : y.length ≤ 4000000) : ∃ z, Hid (z = x ++ y) ∧ z.length = x.length + y.length ∧ ∀ w, (Op.stringOp .add (bs x) (bs y)).run Tryd.prog w = .ok (.string (bs z)) w :=
  ⟨x ++ y, rfl, by simp, fun w => catB x y (by omega) (by omega) w⟩

set_option maxHeartbeats 2000000 in
set_option maxRecDepth 100000 in
theorem printBond_any (p : St) (w : World) (hp : p.bd.length ≤ 1000) :
    Calls Tryd.prog 10 #[p.one] w fun e w' => e = .returned (.string (bs (bdT p))) ∧ Below w.heap.size w w' := by
  obtain ⟨bd, back, kd⟩ := p
  have hl := ar_len back
  obtain ⟨z1, H1, l1, k1⟩ := catX (ar0 back) bd (by omega) (by simp only at hp; omega)
  obtain ⟨z2, H2, l2, k2⟩ := catX z1 (ar1 back) (by simp only at hp; omega) (by omega)
  have HE : Hid (bdT ⟨bd, back, kd⟩ = z2) := by show _ = _; unfold bdT; rw [H2.out, H1.out]
  rw [HE.out]
  have cA := fun W => arrow_any back W
  generalize ar0 back = x0 at cA k1
  generalize ar1 back = x1 at cA k2
  have HB0 : Hid (Below w.heap.size w (w.alloc (.cells #[.string (bs bd), .bool back, .string (bs kd), .slice none 0 0] 30))) := (Below.refl _ w).alloc (Nat.le_refl _) _
  have HS : Hid (∀ W, Below (w.alloc (.cells #[.string (bs bd), .bool back, .string (bs kd), .slice none 0 0] 30)).heap.size (w.alloc (.cells #[.string (bs bd), .bool back, .string (bs kd), .slice none 0 0] 30)) W → Below w.heap.size w W ∧ ∀ o, (W.alloc o).cell? ⟨w.heap.size, 0, none⟩ = some (.string (bs bd))) := fun W hW => by
    have hp := (hW.block w.heap.size (by simp)).trans (new_block w _ 30)
    exact ⟨on1 HB0.out hW, cell_old (cell_at hp rfl)⟩
  clear H1 H2 HE l1 l2 hp hl
  go_enter Tryd.func10, Tryd.ntmps10
  go_wp2_with (go_at_call 15; refine (cA _).mono ?_; rintro e W1 ⟨rfl, hB1⟩; obtain ⟨hb1, p0⟩ := HS.out W1 hB1; have HB1 := Lib.hid hb1; clear hB1 hb1)
  go_ret
  exact ⟨rfl, b_alloc HB1.out _⟩
theorem printTests_nil (w : World) : Calls Tryd.prog 11 #[.slice none 0 0] w fun e w' => e = .returned (.string ⟨#[]⟩) ∧ w' = w := by
  go_enter Tryd.func11, Tryd.ntmps11
  go_wp2
  go_ret
  exact ⟨rfl, rfl⟩
theorem info_parts {P : Program} {t : TypeId} {z : Option Value} {s b : Nat} (h : (P.info? t).map (fun i => (i.zero, i.size, i.bytes)) = some (z, s, b)) :
    ∃ i, P.info? t = some i ∧ i.zero = z ∧ i.size = s ∧ i.bytes = b := by
  obtain ⟨i, hi, he⟩ := Option.map_eq_some_iff.1 h
  simp only [Prod.mk.injEq] at he
  exact ⟨i, hi, he.1, he.2.1, he.2.2⟩
theorem info9 : (Tryd.prog.info? 9).map (fun i => (i.zero, i.size, i.bytes)) = some (some (.string ⟨#[]⟩), 1, 16) := by kernel_rfl
theorem infoS : (Tryd.prog.info? 30).map (fun i => (i.zero, i.size, i.bytes)) = some (some (.agg #[.string ⟨#[]⟩, .bool false, .string ⟨#[]⟩, .slice none 0 0]), 4, 64) := by kernel_rfl
/-- Words, as cells. -/
def wcells (L : List Nm) : List Value := L.map fun x => .string (bs x)
theorem wcells_app (L M : List Nm) : wcells (L ++ M) = wcells L ++ wcells M := by simp [wcells]
theorem cell_new1 (w0 : World) (v : Value) : ∀ j u, [v][j]? = some u → (w0.alloc (.cells #[v] 9)).cell? ((⟨w0.heap.size, 0, none⟩ : Addr).add j) = some u := by
  intro j u hu
  match j, hu with
  | 0, hu => simp at hu; subst hu; simp [Addr.add]
  | k + 1, hu => simp at hu
theorem cell_one1 (x : ByteArray) : ∀ u ∈ [Value.string x], u.oneCell' = true := by
  intro u hu; simp at hu; subst hu; rfl
theorem words_at {w : World} {base : Nat} {v : Value} {L : List Nm} (h : w.ownsRow base 9 1 v L.length (wcells L)) (hp : 0 < L.length) :
    ∃ g cp, v = .slice (some ⟨g, 0, none⟩) L.length cp ∧ (g < w.heap.size ∧ L.length ≤ cp) ∧ ∀ (j : Nat) (x : ByteArray), (L.map bs)[j]? = some x → w.cell? ⟨g, j, none⟩ = some (.string x) := by
  have hc : ∀ g, v.ownBlock = some g → ∀ j u, (wcells L)[j]? = some u → w.cell? ((⟨g, 0, none⟩ : Addr).add j) = some u := fun g hg => h.cells hg
  rcases h.2 with ⟨rfl, h0⟩ | ⟨g, cap, cur, rfl, hb, hg, hle, _⟩
  · omega
  · refine ⟨g, cap, rfl, ⟨(Array.getElem?_eq_some_iff.1 hg).1, hle⟩, fun j x hx => ?_⟩
    have := hc g rfl j (.string x) (by
      rw [List.getElem?_map] at hx
      obtain ⟨p, h1, h2⟩ := Option.map_eq_some_iff.1 hx
      unfold wcells
      rw [List.getElem?_map, h1, ← h2]; rfl)
    rw [Addr.add_lit, Nat.zero_add] at this
    exact this
theorem join_le (L : List Nm) (c m : Nat) (hm : ∀ w ∈ L, w.length ≤ m) : (Lib.join L [c.toUInt8]).length ≤ (m + 1) * L.length := by
  induction L with
  | nil => simp [Lib.join_nil]
  | cons a r ih =>
    have ha := hm a (by simp)
    rw [Lib.join_cons]
    have : ∀ r : List Nm, (∀ w ∈ r, w.length ≤ m) → (Lib.joinTail [c.toUInt8] r).length ≤ (m + 1) * r.length := by
      intro r hr
      induction r with
      | nil => simp [Lib.joinTail]
      | cons b q ihq =>
        have hb := hr b (by simp)
        have := ihq (fun w hw => hr w (by simp [hw]))
        simp only [Lib.joinTail, List.map_cons, List.flatten_cons, List.length_append, List.length_cons] at this ⊢
        rw [Nat.mul_add]; simp only [List.length_nil] at *; omega
    have := this r (fun w hw => hm w (by simp [hw]))
    simp only [List.length_append, List.length_cons]
    rw [Nat.mul_add]; omega
theorem own_on {w w0 : World} {base : Nat} {e : TypeId} {size : Nat} {v : Value} {n : Nat} {xs : List Value} (h : w.ownsRow base e size v n xs) (hB : Below w.heap.size w w0) : w0.ownsRow base e size v n xs := own_kt h (Kt.of_below hB)
/-- A join of words that the call made. -/
theorem joinB {w : World} {base : Nat} {v : Value} {L : List Nm} (h : w.ownsRow base 9 1 v L.length (wcells L)) (hp : 0 < L.length) (hL : L.length ≤ 1000) (c : UInt8) (hl : ∀ x ∈ L, x.length ≤ 100000) :
    Calls Tryd.prog 12 #[v, .string ⟨#[c]⟩] w fun e w' => e = .returned (.string (bs (Lib.join L [c]))) ∧ Below w.heap.size w w' := by
  obtain ⟨g, cp, rfl, hgl, hcells⟩ := words_at h hp
  have e1 : (L.map bs).map (·.data.toList) = L := by
    rw [List.map_map]
    have : ((fun x : ByteArray => x.data.toList) ∘ bs) = id := by funext a; simp
    rw [this, List.map_id]
  have := Tryd.strings_Join g 0 cp (L.map bs) ⟨#[c]⟩ w (fun j x hx => by rw [Nat.zero_add]; exact hcells j x hx) hgl.1 (by simp; omega) (by simp; exact hgl.2) (by
    rw [e1]
    have := join_le L c.toNat 100000 hl
    rw [show c.toNat.toUInt8 = c from by simp] at this
    show (Lib.join L [c]).length ≤ _
    have h2 : (100000 + 1) * L.length ≤ (100000 + 1) * 1000 := Nat.mul_le_mul_left _ hL
    omega)
  rw [e1, List.length_map] at this
  exact this
theorem wdsT_app (l : List St) (p : St) : wdsT (l ++ [p]) = wdsT l ++ [bdT p, p.kd] := by
  induction l with
  | nil => rfl
  | cons a r ih => simp only [List.cons_append, wdsT, ih]
theorem wds_app (l : List St) (p : St) (h : ¬ l = []) : wds (l ++ [p]) = (wds l ++ [bdT p]) ++ [p.kd] := by
  cases l with
  | nil => exact absurd rfl h
  | cons a r => simp only [List.cons_append, wds, wdsT_app, List.append_assoc, List.nil_append]
theorem wdsT_len (l : List St) : (wdsT l).length = 2 * l.length := by
  induction l with
  | nil => rfl
  | cons a r ih => simp only [wdsT, List.length_cons, ih]; omega
theorem wds_len (l : List St) : (wds l).length ≤ 2 * l.length := by
  cases l with
  | nil => simp [wds]
  | cons a r => simp only [wds, List.length_cons, wdsT_len]; omega
end Go.Proofs.YtenadbfedbjefaaDoor
