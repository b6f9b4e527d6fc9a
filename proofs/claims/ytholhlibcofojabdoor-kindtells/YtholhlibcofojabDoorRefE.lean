/-
  One field more, put in from the end: mathematics; and the three appends of kinref1.Fields.
-/
import Derived.Test.YtholhlibcofojabDoorRefD
namespace Go.Proofs.YtholhlibcofojabDoor
open Go.RowKit
set_option linter.unusedVariables false
set_option linter.unusedSimpArgs false

/-- How many are not behind a name. -/
def upF (nm : Nm) (al : List Fd) : Nat := lo nm al + (if fnd nm al = true then 1 else 0)
theorem fnd_at {nm : Nm} {al : List Fd} (h : fnd nm al = true) : ∃ g, al[lo nm al]? = some g ∧ g.nm = nm := by
  unfold fnd at h
  split at h
  · rename_i g hg
    exact ⟨g, hg, by simpa using h⟩
  · cases h
theorem upF_le (nm : Nm) (al : List Fd) : upF nm al ≤ al.length := by
  unfold upF
  split
  · rename_i h
    obtain ⟨g, hg, _⟩ := fnd_at h
    have := (List.getElem?_eq_some_iff.1 hg).1
    omega
  · have := lo_le nm al
    omega
theorem srt_lt {al : List Fd} (h : Srt al) {i j : Nat} {x y : Fd} (hx : al[i]? = some x) (hy : al[j]? = some y) (hij : i < j) : Op.bytesLess x.nm y.nm = true := by
  obtain ⟨h1, e1⟩ := List.getElem?_eq_some_iff.1 hx
  obtain ⟨h2, e2⟩ := List.getElem?_eq_some_iff.1 hy
  have := List.pairwise_iff_getElem.1 h i j h1 h2 hij
  rw [e1, e2] at this
  exact this
/-- Behind it they are greater. -/
theorem up_gt {nm : Nm} {al : List Fd} (h : Srt al) {i : Nat} {g : Fd} (hg : al[i]? = some g) (hi : upF nm al ≤ i) : Op.bytesLess nm g.nm = true := by
  have hlo : lo nm al ≤ i := by unfold upF at hi; omega
  have hnl : ¬ Op.bytesLess g.nm nm = true := fun e => by
    have := (lo_spec nm h i g hg).2 e; omega
  refine less_tri (by simpa using hnl) (fun e => ?_)
  by_cases hf : fnd nm al = true
  · obtain ⟨x, hx, hxn⟩ := fnd_at hf
    have hlt : lo nm al < i := by unfold upF at hi; rw [if_pos hf] at hi; omega
    have := srt_lt h hx hg hlt
    rw [hxn, e, less_irr] at this
    exact absurd this (by decide)
  · by_cases hil : i = lo nm al
    · subst hil
      apply hf
      unfold fnd
      rw [hg]; simpa using e
    · obtain ⟨x, hx⟩ : ∃ x, al[lo nm al]? = some x := ⟨al[lo nm al]'(by have := (List.getElem?_eq_some_iff.1 hg).1; omega), by simp⟩
      have h2 := srt_lt h hx hg (by omega)
      rw [e] at h2
      have := (lo_spec nm h _ x hx).2 h2
      omega
/-- The last one that is not behind it. -/
theorem up_last {nm : Nm} {al : List Fd} (h : Srt al) {i : Nat} {g : Fd} (hg : al[i]? = some g) (hi : upF nm al = i + 1) : Op.bytesLess nm g.nm = false ∧ (g.nm == nm) = fnd nm al := by
  by_cases hf : fnd nm al = true
  · obtain ⟨x, hx, hxn⟩ := fnd_at hf
    have : i = lo nm al := by unfold upF at hi; rw [if_pos hf] at hi; omega
    subst this
    rw [hg] at hx
    obtain rfl := Option.some.inj hx
    rw [hxn, hf]
    exact ⟨less_irr _, by simp⟩
  · have hl : i < lo nm al := by unfold upF at hi; rw [if_neg hf] at hi; omega
    have h1 := (lo_spec nm h i g hg).1 hl
    have hf' : fnd nm al = false := by simpa using hf
    refine ⟨less_asym h1, ?_⟩
    rw [hf']
    have : ¬ g.nm = nm := fun e => by rw [e, less_irr] at h1; exact absurd h1 (by decide)
    simpa using this
theorem up_new {nm : Nm} {al : List Fd} (hf : fnd nm al = false) : upF nm al = lo nm al := by unfold upF; rw [if_neg (by rw [hf]; decide)]; rfl
/-- Each cell of fields that lie there. -/
theorem liesF_cell {w : World} {b off : Nat} {l : List Fd} (hl : LiesF w b off l) : ∀ j u, (cellsF l)[j]? = some u → w.cell? ⟨b, off + j, none⟩ = some u := by
  intro j u hu
  have hjl := (List.getElem?_eq_some_iff.1 hu).1
  rw [cellsF_len] at hjl
  obtain ⟨k, r, hr, rfl⟩ : ∃ k r, r < 4 ∧ j = k * 4 + r := ⟨j / 4, j % 4, by omega, by omega⟩
  have hq : k < l.length := by omega
  have hat := flat_at Fd.cells 4 (fun _ => rfl) l k l[k] r (List.getElem?_eq_getElem hq) hr
  have hu' : (l.flatMap Fd.cells)[k * 4 + r]? = some u := hu
  rw [hat] at hu'
  obtain ⟨e0, e1, e2, e3⟩ := hl k l[k] (List.getElem?_eq_getElem hq)
  have h4 : r = 0 ∨ r = 1 ∨ r = 2 ∨ r = 3 := by omega
  rcases h4 with rfl | rfl | rfl | rfl
  · obtain rfl : Value.string (bs l[k].nm) = u := Option.some.inj hu'
    exact e0
  · obtain rfl : Value.int .i64 l[k].t = u := Option.some.inj hu'
    rw [← Nat.add_assoc]; exact e1
  · obtain rfl : Value.bool l[k].must = u := Option.some.inj hu'
    rw [← Nat.add_assoc]; exact e2
  · obtain rfl : Value.bool l[k].key = u := Option.some.inj hu'
    rw [← Nat.add_assoc]; exact e3
/-- append of a stretch of fields that lies there. -/
theorem app_fields {w : World} {ops : Array Oper} {rest : List Oper} {o : Oper} {a : Act} {Q : Exit → Act → World → Prop} (hgd : o.guard = none) (s x : Operand)
    (ho : o.op = .call { callee := .builtin .append, args := #[s, x], argTypes := #[45, 45] }) (base : Nat)
    (v : Value) (ns l : List Fd) (hs : a.eval s = v) (hown : w.ownsRow base 59 4 v ns.length (cellsF ns)) (u : Value) (hx : a.eval x = u) (hl : IsF w u l) (h63 : ns.length + l.length ≤ 1000) (hbase : base ≤ w.heap.size)
    (h : ∀ v' w', w'.ownsRow base 59 4 v' (ns.length + l.length) (cellsF ns ++ cellsF l) → w.grownBy w' v.ownBlock → wpList Tryd.prog ops Q rest (a.put o.dst v') w') : wpList Tryd.prog ops Q (o :: rest) a w := by
  obtain ⟨i0, hi0, hz0, hz1, hz2⟩ := info_parts info59
  rcases hl with ⟨ao, c0, rfl, rfl, hc0, hcn⟩ | ⟨b, off, cap, rfl, hc, hm, hb, hl⟩
  · cases ao with
    | some ad =>
      refine wpList_append_own w hgd s x 45 ho base 59 i0 _ 4 32 Tryd.underlying45 hi0 hz0 hz1 hz2 rfl (by decide) v ns.length (cellsF ns) hs hown ad 0 c0 [] hx rfl (fun j u hu => by simp at hu) (fun u hu => by simp at hu) (by unfold maxLen; omega) (by omega) hbase (fun v' w' h1 h2 _ => h v' w' h1 h2)
    | none =>
      obtain rfl := hcn rfl
      refine wpList_append_own_none hgd s x 45 ho base 59 i0 4 Tryd.underlying45 hi0 v ns.length (cellsF ns) hs hown hx ?_
      exact h v w (by simpa [cellsF] using hown) ⟨rfl, rfl, rfl, Nat.le_refl _, fun _ _ _ => rfl⟩
  · refine wpList_append_own w hgd s x 45 ho base 59 i0 _ 4 32 Tryd.underlying45 hi0 hz0 hz1 hz2 rfl (by decide) v ns.length (cellsF ns) hs hown ⟨b, off, none⟩ l.length cap (cellsF l) hx (cellsF_len l) ?_ (cellsF_one l) (by unfold maxLen; omega) (by omega) hbase (fun v' w' h1 h2 _ => h v' w' h1 h2)
    intro j u hu
    rw [Addr.add_lit]
    exact liesF_cell hl j u hu
end Go.Proofs.YtholhlibcofojabDoor
