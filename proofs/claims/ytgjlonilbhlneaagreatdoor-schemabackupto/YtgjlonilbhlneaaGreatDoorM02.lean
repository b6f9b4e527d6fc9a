/-
  Fields in the order of their names, one more put in; and what is known of kinds that are right: mathematics.
-/
import Derived.Test.YtgjlonilbhlneaaGreatDoorM01
import Derived.Lib.Bytealg
import Derived.WalkKit
import Derived.Lib.Walk
import Derived.Laws.AppendOwn
import Derived.Laws.CopyOwn
import Derived.Lib.AppendZerosOnto
import Derived.Lib.Overlaps
import Derived.Laws.NewBlocks
import Derived.Lib.Hide
import Derived.Deep.QuietTactic
import Derived.BigQuiet
import Derived.Deep.RegionLaw
import Derived.Deep.RegionWith
namespace Go.Proofs.YtgjlonilbhlneaaGreatDoor
open Go.RowKit
set_option linter.unusedVariables false
set_option linter.unusedSimpArgs false

theorem cmpB_anti (a b : List UInt8) : Lib.compareBytes b a = -Lib.compareBytes a b := by
  induction a generalizing b with
  | nil => cases b <;> simp [Lib.compareBytes]
  | cons c r ih =>
    cases b with
    | nil => simp [Lib.compareBytes]
    | cons d q =>
      simp only [Lib.compareBytes]
      by_cases h1 : c < d
      · have h2 : ¬ d < c := by rw [UInt8.lt_iff_toNat_lt] at *; omega
        simp [h1, h2]
      · by_cases h2 : d < c
        · simp [h1, h2]
        · simp [h1, h2, ih q]
theorem cmpB_zero (a b : List UInt8) : Lib.compareBytes a b = 0 ↔ a = b := by
  induction a generalizing b with
  | nil => cases b <;> simp [Lib.compareBytes]
  | cons c r ih =>
    cases b with
    | nil => simp [Lib.compareBytes]
    | cons d q =>
      simp only [Lib.compareBytes]
      by_cases h1 : c < d
      · have hne : ¬ c = d := by intro e; rw [e, UInt8.lt_iff_toNat_lt] at h1; omega
        simp [h1, hne]
      · by_cases h2 : d < c
        · have hne : ¬ c = d := by intro e; rw [e, UInt8.lt_iff_toNat_lt] at h2; omega
          simp [h1, h2, hne]
        · have he : c = d := by rw [UInt8.lt_iff_toNat_lt] at h1 h2; exact UInt8.toNat_inj.1 (by omega)
          simp [h1, h2, ih q, he]
theorem cmpB_trans (a b c : List UInt8) (h1 : Lib.compareBytes a b ≤ 0) (h2 : Lib.compareBytes b c ≤ 0) : Lib.compareBytes a c ≤ 0 := by
  induction a generalizing b c with
  | nil => cases c <;> simp [Lib.compareBytes]
  | cons x r ih =>
    cases b with
    | nil => simp [Lib.compareBytes] at h1
    | cons y q =>
      cases c with
      | nil => simp [Lib.compareBytes] at h2
      | cons z p =>
        simp only [Lib.compareBytes] at h1 h2 ⊢
        simp only [UInt8.lt_iff_toNat_lt] at *
        by_cases a1 : x.toNat < y.toNat
        · by_cases b1 : y.toNat < z.toNat
          · rw [if_pos (by omega)]; decide
          · by_cases b2 : z.toNat < y.toNat
            · rw [if_neg b1, if_pos b2] at h2; simp at h2
            · rw [if_pos (by omega)]; decide
        · by_cases a2 : y.toNat < x.toNat
          · rw [if_neg a1, if_pos a2] at h1; simp at h1
          · rw [if_neg a1, if_neg a2] at h1
            by_cases b1 : y.toNat < z.toNat
            · rw [if_pos (by omega)]; decide
            · by_cases b2 : z.toNat < y.toNat
              · rw [if_neg b1, if_pos b2] at h2; simp at h2
              · rw [if_neg b1, if_neg b2] at h2
                rw [if_neg (by omega), if_neg (by omega)]
                exact ih q p h1 h2
theorem less_cmp (a : List UInt8) : ∀ b, Op.bytesLess a b = decide (Lib.compareBytes a b < 0) := by
  induction a with
  | nil => intro b; cases b <;> simp [Op.bytesLess, Lib.compareBytes]
  | cons c r ih =>
    intro b
    cases b with
    | nil => simp [Op.bytesLess, Lib.compareBytes]
    | cons d q =>
      simp only [Op.bytesLess, Lib.compareBytes]
      by_cases h1 : c < d
      · simp [h1]
      · by_cases h2 : d < c
        · have hne : ¬ c = d := by intro e; rw [e, UInt8.lt_iff_toNat_lt] at h2; omega
          simp [h1, h2, hne]
        · have he : c = d := by rw [UInt8.lt_iff_toNat_lt] at h1 h2; exact UInt8.toNat_inj.1 (by omega)
          simp [h1, h2, he, ih q]
theorem less_irr (a : Nm) : Op.bytesLess a a = false := by
  rw [less_cmp, (cmpB_zero a a).2 rfl]; decide
theorem less_trans {a b c : Nm} (h1 : Op.bytesLess a b = true) (h2 : Op.bytesLess b c = true) : Op.bytesLess a c = true := by
  rw [less_cmp] at *
  have g1 : Lib.compareBytes a b < 0 := by simpa using h1
  have g2 : Lib.compareBytes b c < 0 := by simpa using h2
  have h3 := cmpB_trans a b c (by omega) (by omega)
  rcases Int.lt_or_eq_of_le h3 with h | h
  · simpa using h
  · have e := (cmpB_zero _ _).1 h
    subst e
    have := cmpB_anti a b
    omega
theorem less_tri {a b : Nm} (h1 : Op.bytesLess a b = false) (h2 : ¬ a = b) : Op.bytesLess b a = true := by
  rw [less_cmp] at *
  have g1 : ¬ Lib.compareBytes a b < 0 := by simpa using h1
  have g2 : ¬ Lib.compareBytes a b = 0 := fun e => h2 ((cmpB_zero _ _).1 e)
  have := cmpB_anti a b
  have : Lib.compareBytes b a < 0 := by omega
  simpa using this
theorem less_asym {a b : Nm} (h1 : Op.bytesLess a b = true) : Op.bytesLess b a = false := by
  cases h : Op.bytesLess b a
  · rfl
  · have := less_trans h1 h
    rw [less_irr] at this
    exact absurd this (by decide)

def Srt (l : List Fd) : Prop := l.Pairwise fun a b => Op.bytesLess a.nm b.nm = true
theorem lo_le (nm : Nm) (l : List Fd) : lo nm l ≤ l.length := by
  induction l with
  | nil => exact Nat.le_refl _
  | cons g r ih => unfold lo; split <;> simp <;> omega
theorem lo_spec (nm : Nm) {l : List Fd} (h : Srt l) : ∀ i g, l[i]? = some g → (i < lo nm l ↔ Op.bytesLess g.nm nm = true) := by
  induction l with
  | nil => intro i g hg; simp at hg
  | cons x r ih =>
    obtain ⟨h1, h2⟩ := List.pairwise_cons.1 h
    intro i g hg
    by_cases hx : Op.bytesLess x.nm nm = true
    · have e : lo nm (x :: r) = lo nm r + 1 := by simp [lo, hx]
      rw [e]
      cases i with
      | zero => simp at hg; subst hg; simp [hx]
      | succ i =>
        have := ih h2 i g (by simpa using hg)
        rw [← this]; omega
    · have e : lo nm (x :: r) = 0 := by simp [lo, hx]
      rw [e]
      refine ⟨fun h => absurd h (by omega), fun hl => ?_⟩
      cases i with
      | zero => simp at hg; subst hg; exact absurd hl hx
      | succ i =>
        have hm : g ∈ r := List.mem_of_getElem? (by simpa using hg)
        exact absurd (less_trans (h1 g hm) hl) hx
theorem insF_spec {all : List Fd} (h : Srt all) (f : Fd) {r : List Fd} (hr : insF all f = some r) : Srt r ∧ (∀ x, x ∈ r ↔ x ∈ all ∨ x = f) ∧ r.length ≤ all.length + 1 := by
  have hput : (∀ g, all[lo f.nm all]? = some g → ¬ g.nm = f.nm) → Srt (all.take (lo f.nm all) ++ f :: all.drop (lo f.nm all)) ∧ (∀ x, x ∈ all.take (lo f.nm all) ++ f :: all.drop (lo f.nm all) ↔ x ∈ all ∨ x = f) ∧ (all.take (lo f.nm all) ++ f :: all.drop (lo f.nm all)).length ≤ all.length + 1 := by
    intro hne
    refine ⟨?_, fun x => ?_, ?_⟩
    · have hsp := h
      unfold Srt at hsp ⊢
      rw [← List.take_append_drop (lo f.nm all) all] at hsp
      obtain ⟨p1, p2, p3⟩ := List.pairwise_append.1 hsp
      have ha : ∀ a ∈ all.take (lo f.nm all), Op.bytesLess a.nm f.nm = true := by
        intro a hm
        obtain ⟨j, hj⟩ := List.mem_iff_getElem?.1 hm
        rw [List.getElem?_take] at hj
        split at hj
        · rename_i hlt
          exact (lo_spec f.nm h j a hj).1 hlt
        · cases hj
      have hb : ∀ b ∈ all.drop (lo f.nm all), Op.bytesLess f.nm b.nm = true := by
        intro b hm
        obtain ⟨j, hj⟩ := List.mem_iff_getElem?.1 hm
        rw [List.getElem?_drop] at hj
        have h1 : ¬ Op.bytesLess b.nm f.nm = true := fun e => by
          have := (lo_spec f.nm h _ b hj).2 e; omega
        refine less_tri (by simpa using h1) (fun e => ?_)
        cases j with
        | zero => exact hne b (by simpa using hj) e
        | succ j =>
          obtain ⟨g, hg⟩ : ∃ g, all[lo f.nm all]? = some g := ⟨all[lo f.nm all]'(by have := (List.getElem?_eq_some_iff.1 hj).1; omega), by simp⟩
          have h2 : ¬ Op.bytesLess g.nm f.nm = true := fun e => by
            have := (lo_spec f.nm h _ g hg).2 e; omega
          have h3 : Op.bytesLess g.nm b.nm = true := by
            have hlt := (List.getElem?_eq_some_iff.1 hj).1
            have := List.pairwise_iff_getElem.1 h (lo f.nm all) (lo f.nm all + (j + 1)) (by omega) hlt (by omega)
            rw [(List.getElem?_eq_some_iff.1 hg).2, (List.getElem?_eq_some_iff.1 hj).2] at this
            exact this
          rw [e] at h3
          exact h2 h3
      refine List.pairwise_append.2 ⟨p1, List.pairwise_cons.2 ⟨hb, p2⟩, fun a hm b hmb => ?_⟩
      rcases List.mem_cons.1 hmb with rfl | hmb
      · exact ha a hm
      · exact p3 a hm b hmb
    · have : x ∈ all ↔ x ∈ all.take (lo f.nm all) ∨ x ∈ all.drop (lo f.nm all) := by
        rw [← List.mem_append, List.take_append_drop]
      rw [this]; simp only [List.mem_append, List.mem_cons]
      constructor
      · rintro (h | h | h)
        · exact .inl (.inl h)
        · exact .inr h
        · exact .inl (.inr h)
      · rintro ((h | h) | h)
        · exact .inl h
        · exact .inr (.inr h)
        · exact .inr (.inl h)
    · simp; omega
  unfold insF at hr
  split at hr
  · rename_i g hg
    split at hr
    · split at hr
      · rename_i h1 h2
        have e := (feq_iff g f).1 h2
        obtain rfl := Option.some.inj hr
        refine ⟨h, fun x => ⟨fun hx => .inl hx, fun hx => ?_⟩, by omega⟩
        rcases hx with hx | rfl
        · exact hx
        · rw [← e]; exact List.mem_of_getElem? hg
      · cases hr
    · rename_i h1
      obtain rfl := Option.some.inj hr
      exact hput (fun g' hg' => by rw [hg] at hg'; obtain rfl := Option.some.inj hg'; simpa using h1)
  · rename_i hg
    obtain rfl := Option.some.inj hr
    exact hput (fun g' hg' => by rw [hg] at hg'; cases hg')
theorem srt_nil : Srt [] := List.Pairwise.nil

def Small (L : List Kd) : Prop := ∀ k ∈ L, k.of.length ≤ 4 ∧ k.fs.length ≤ 8
def SzK (L : List Kd) : Prop := ∀ k ∈ L, k.nm.length ≤ maxLen ∧ ∀ f ∈ k.fs, f.nm.length ≤ maxLen
theorem idxK_none {nm : Nm} {L : List Kd} {k : Nat} (h : idxK nm L k = -1) : ∀ x ∈ L, x.nm ≠ nm := by
  induction L generalizing k with
  | nil => intro x hx; simp at hx
  | cons p r ih =>
    intro x hx
    by_cases hp : (p.nm == nm) = true
    · unfold idxK at h; rw [if_pos hp] at h; omega
    · have e : idxK nm (p :: r) k = idxK nm r (k + 1) := by
        conv => lhs; unfold idxK
        rw [if_neg hp]
      rw [e] at h
      rcases List.mem_cons.1 hx with rfl | hx
      · simpa using hp
      · exact ih h x hx
theorem idxK_has {nm : Nm} {L : List Kd} (h : ¬ idxK nm L 0 = -1) : ∃ (j : Nat) (q : Kd), idxK nm L 0 = (j : Int) ∧ L[j]? = some q ∧ q.nm = nm := by
  obtain ⟨j, q, h1, h2, h3⟩ := (idxK_spec nm L 0).resolve_left h
  exact ⟨j, q, by simpa using h1, h2, h3⟩
theorem idxK_neg_iff {nm : Nm} {L : List Kd} : idxK nm L 0 = -1 ↔ ∀ x ∈ L, x.nm ≠ nm := by
  refine ⟨idxK_none, fun h => ?_⟩
  rcases idxK_spec nm L 0 with h1 | ⟨j, q, h1, h2, h3⟩
  · exact h1
  · exact absurd h3 (h q (List.mem_of_getElem? h2))
theorem oChk_zero (A : List Kd) (of : List Nm) : ∀ seen, oChk A seen of = 0 → ∀ n ∈ of, ∃ x ∈ A, x.nm = n := by
  induction of with
  | nil => intro seen h n hn; simp at hn
  | cons m r ih =>
    intro seen h n hn
    unfold oChk at h
    split at h
    · exact absurd h (by decide)
    · rename_i h1
      split at h
      · exact absurd h (by decide)
      · rcases List.mem_cons.1 hn with rfl | hn
        · obtain ⟨j, q, _, h2, h3⟩ := idxK_has h1
          exact ⟨q, List.mem_of_getElem? h2, h3⟩
        · exact ih _ h n hn
theorem kErr_zero {A : List Kd} {k : Kd} (h : kErr A k = 0) : nErr k.nm = 0 ∧ idxK k.nm A 0 = -1 ∧ (k.of.length ≤ 4 ∧ k.fs.length ≤ 8) ∧ oChk A [] k.of = 0 ∧ fChk none k.fs = 0 ∧ ∃ l, fieldsOf (kinOf (A ++ [k])) = some l ∧ l.length ≤ 8 := by
  unfold kErr at h
  split at h
  · rename_i h1
    split at h
    · rename_i h2
      split at h
      · exact absurd h (by decide)
      · rename_i h3
        split at h
        · rename_i h4
          split at h
          · rename_i h5
            refine ⟨h1, h2, by omega, h4, h5, ?_⟩
            cases e : fieldsOf (kinOf (A ++ [k])) with
            | none => rw [e] at h; exact absurd h (by decide)
            | some l =>
              rw [e] at h
              refine ⟨l, rfl, ?_⟩
              unfold aErr at h
              simp only at h
              split at h
              · exact absurd h (by decide)
              · omega
          · rename_i h5; exact absurd h h5
        · rename_i h4; exact absurd h h4
    · exact absurd h (by decide)
  · rename_i h1; exact absurd h h1
theorem kErr_right {A : List Kd} {k : Kd} (hA : Right A) (h : kErr A k = 0) : Right (A ++ [k]) := by
  obtain ⟨h1, h2, h3, h4, h5, _⟩ := kErr_zero h
  exact right_snoc.2 ⟨idxK_none h2, oChk_zero A k.of [] h4, hA⟩
def Good (L : List Kd) : Prop := ∀ i k, L[i]? = some k → kErr (L.take i) k = 0
theorem ksGo_good (L : List Kd) : ∀ A, (ksGo A L).2 = 0 ↔ ∀ i k, L[i]? = some k → kErr (A ++ L.take i) k = 0 := by
  induction L with
  | nil => intro A; simp [ksGo]
  | cons x r ih =>
    intro A
    unfold ksGo
    split
    · rename_i h
      rw [ih]
      constructor
      · intro h1 i k hk
        cases i with
        | zero => simp at hk; subst hk; simpa using h
        | succ i => have := h1 i k (by simpa using hk); simpa using this
      · intro h1 i k hk
        have := h1 (i + 1) k (by simpa using hk)
        simpa using this
    · rename_i h
      constructor
      · intro h1; exact absurd h1 h
      · intro h1; exact absurd (by simpa using h1 0 x (by simp)) h
theorem ksErr_good {L : List Kd} : (ksErr L).2 = 0 ↔ Good L ∧ L.length ≤ 12 := by
  unfold ksErr
  split
  · rename_i h
    constructor
    · intro h1; exact absurd h1 (by decide)
    · intro h1; omega
  · rename_i h
    rw [ksGo_good]
    constructor
    · intro h1; exact ⟨fun i k hk => by simpa using h1 i k hk, by omega⟩
    · rintro ⟨h1, _⟩ i k hk; simpa using h1 i k hk
theorem Good.take {L : List Kd} (h : Good L) (i : Nat) : Good (L.take i) := fun j k hk => by
  rw [List.getElem?_take] at hk
  split at hk
  · rename_i hlt
    have := h j k hk
    rw [List.take_take]
    rwa [Nat.min_eq_left (by omega)]
  · cases hk
theorem Good.right {L : List Kd} (h : Good L) : Right L := by
  revert h
  refine snoc_ind (P := fun L => Good L → Right L) ?_ ?_ L
  · intro _; trivial
  · intro A k ih h
    have h1 : Good A := by
      have := h.take A.length
      simpa using this
    have h2 := h A.length k (by simp)
    simp at h2
    exact kErr_right (ih h1) h2
theorem Good.small {L : List Kd} (h : Good L) : Small L := fun k hk => by
  obtain ⟨i, hi⟩ := List.mem_iff_getElem?.1 hk
  exact (kErr_zero (h i k hi)).2.2.1
theorem back_sub (r : List Kd) : ∀ ns, (back r ns).Sublist r := by
  induction r with
  | nil => intro ns; exact List.Sublist.slnil
  | cons k r ih =>
    intro ns
    unfold back
    split
    · exact (ih _).cons_cons _
    · exact (ih _).cons _
theorem kinOf_sub (L : List Kd) : (∀ k ∈ kinOf L, k ∈ L) ∧ (kinOf L).length ≤ L.length := by
  unfold kinOf
  split
  · simp
  · rename_i k hk
    have h := back_sub L.reverse [k.nm]
    exact ⟨fun x hx => by simpa using h.subset (by simpa using hx), by simpa using h.length_le⟩
end Go.Proofs.YtgjlonilbhlneaaGreatDoor

/-
  copy between slices whose elements have several cells; a row with one element more: laws of no program.
-/
namespace Go.Proofs.YtgjlonilbhlneaaGreatDoor
open Go.RowKit Go.Lib
set_option linter.unusedVariables false
set_option linter.unusedSimpArgs false

theorem run_copy_rowN {P : Program} (w : World) (dT sT ty elem : TypeId) (size g o dLen dCap : Nat) (a : Addr) (sLen sCap : Nat) (cur : Array Value) (t : TypeId) (cs : List Value) (k : Nat)
    (hu : P.underlying dT = some (.slice elem)) (hs : (P.info? elem).map (·.size) = some size)
    (hg : w.heap[g]? = some (.cells cur t (0, 0))) (hk : Nat.min sLen dLen = k) (hn : cs.length = k * size)
    (hsrc : ∀ j v, cs[j]? = some v → w.cell? (a.add j) = some v) (hfit : o + cs.length ≤ cur.size) (h1 : ∀ v ∈ cs, v.oneCell' = true) :
    (Builtin.copy_ #[dT, sT] ty #[.slice (some ⟨g, o, none⟩) dLen dCap, .slice (some a) sLen sCap]).run P w =
      .ok (goInt k) (w.setRow g (cur.toList.take o ++ cs ++ cur.toList.drop (o + cs.length)).toArray) := by
  have hl := run_loadCells_list (P := P) w a cs hsrc
  have hst := run_storeCells_at P g o t cs 0 cur w hg (by simpa using hfit) h1
  cases hq : P.info? elem with
  | none => simp [hq] at hs
  | some i =>
    have hi : i.size = size := by simpa [hq] using hs
    simp [Builtin.copy_, run_underlying hu, Builtin.lenOf, Builtin.firstCells, sizeOf, typeInfo, hq, hi, hk, ← hn, hl, hst]

theorem wp_copy_runN {P : Program} (w : World) {o : Oper} {a : Act} {K : Act → World → Prop} {Q : Exit → Act → World → Prop} (d s : Operand) (t t' : TypeId)
    (ho : o.op = .call { callee := .builtin .copy, args := #[d, s], argTypes := #[t, t'] }) (v u : Value) (hd : a.eval d = v) (hs : a.eval s = u) {v' : Value} {w' : World}
    (hr : (Builtin.copy_ #[t, t'] o.type #[v, u]).run P w = .ok v' w') (h : K (a.put o.dst v') w') : o.wp P a w K Q := by
  unfold Oper.wp execOp
  simp only [ho, resolve, invoke, builtin, Sem.run_bind, Sem.run_pure, Result.andThen_ok, List.map_toArray, List.map_cons, List.map_nil, hd, hs, hr]
  exact h
theorem wpList_copy_runN {P : Program} (w : World) {ops : Array Oper} {rest : List Oper} {o : Oper} {a : Act} {Q : Exit → Act → World → Prop} (hgd : o.guard = none) (d s : Operand) (t t' : TypeId)
    (ho : o.op = .call { callee := .builtin .copy, args := #[d, s], argTypes := #[t, t'] }) (v u : Value) (hd : a.eval d = v) (hs : a.eval s = u) {v' : Value} {w' : World}
    (hr : (Builtin.copy_ #[t, t'] o.type #[v, u]).run P w = .ok v' w') (h : wpList P ops Q rest (a.put o.dst v') w') : wpList P ops Q (o :: rest) a w :=
  wpList_plain hgd fun _ hK => wp_copy_runN w d s t t' ho v u hd hs hr (hK _ _ h)
theorem step_copy_runN {P : Program} {ops : Array Oper} {o : Oper} {a : Act} {w : World} {K : Act → World → Prop} {Q : Exit → Act → World → Prop} {E : Prop}
    (hg : o.guard = none) (d x : Operand) (dT sT : TypeId) (hop : o.op = Op.call { callee := Callee.builtin Builtin.copy, args := #[d, x], argTypes := #[dT, sT] })
    (v u : Value) (hd : a.eval d = v) (hx : a.eval x = u) {v' : Value} {w' : World} (hr : (Builtin.copy_ #[dT, sT] o.type #[v, u]).run P w = .ok v' w') (hK : K (a.put o.dst v') w') :
    if Region.wanted o (yielded ops a.tmps) = true then Oper.wp P o a w K Q else E := by
  have hw : Region.wanted o (yielded ops a.tmps) = true := by simp [Region.wanted, hg]
  rw [if_pos hw]
  exact wp_copy_runN w d x dT sT hop v u hd hx hr hK

def lay (l : List Value) (o : Nat) (cs : List Value) : List Value := l.take o ++ cs ++ l.drop (o + cs.length)
theorem lay_len {l : List Value} {o : Nat} {cs : List Value} (h : o + cs.length ≤ l.length) : (lay l o cs).length = l.length := by simp [lay]; omega
theorem lay_room (l xs ys zs new : List Value) (hl : l = xs ++ ys ++ zs) (hz : new.length ≤ zs.length) :
    (lay (lay l (xs.length + new.length) ys) xs.length new).take (xs.length + new.length + ys.length) = xs ++ new ++ ys := by
  subst hl
  have e1 : (lay (xs ++ ys ++ zs) (xs.length + new.length) ys) = (xs ++ (ys ++ zs)).take (xs.length + new.length) ++ (ys ++ (xs ++ (ys ++ zs)).drop (xs.length + new.length + ys.length)) := by simp [lay]
  obtain ⟨u, hu, hul⟩ : ∃ u, (xs ++ (ys ++ zs)).take (xs.length + new.length) = xs ++ u ∧ u.length = new.length := ⟨(ys ++ zs).take new.length, by rw [List.take_append, List.take_of_length_le (by omega)]; congr 2; omega, by simp; omega⟩
  obtain ⟨t, ht⟩ : ∃ t, (xs ++ (ys ++ zs)).drop (xs.length + new.length + ys.length) = t := ⟨_, rfl⟩
  rw [e1, hu, ht]
  have e3 : lay (xs ++ u ++ (ys ++ t)) xs.length new = (xs ++ new ++ ys) ++ t := by
    unfold lay
    have h1 : (xs ++ u ++ (ys ++ t)).take xs.length = xs := by rw [show xs ++ u ++ (ys ++ t) = xs ++ (u ++ (ys ++ t)) by simp]; exact List.take_left
    have h2 : (xs ++ u ++ (ys ++ t)).drop (xs.length + new.length) = ys ++ t := List.drop_left' (by simp; omega)
    rw [h1, h2]; simp
  rw [e3]
  exact List.take_left' (by simp; omega)
theorem lay_grow (xs ys new zs : List Value) (hz : zs.length = new.length + ys.length) (t : List Value) :
    (lay (lay (xs ++ zs ++ t) xs.length new) (xs.length + new.length) ys).take (xs.length + new.length + ys.length) = xs ++ new ++ ys := by
  have e1 : lay (xs ++ zs ++ t) xs.length new = (xs ++ new) ++ (zs ++ t).drop new.length := by
    unfold lay
    rw [show xs ++ zs ++ t = xs ++ (zs ++ t) by simp, List.take_left, List.drop_append, List.drop_of_length_le (by omega)]
    simp
  rw [e1]
  unfold lay
  rw [show (xs ++ new ++ (zs ++ t).drop new.length).take (xs.length + new.length) = xs ++ new from List.take_left' (by simp)]
  exact List.take_left' (by simp; omega)

end Go.Proofs.YtgjlonilbhlneaaGreatDoor

/-
  The small walks of package kind: where a kind of a name stands, and whether a name is in a list.
-/
namespace Go.Proofs.YtgjlonilbhlneaaGreatDoor
open Go.RowKit
set_option linter.unusedVariables false
set_option linter.unusedSimpArgs false

theorem b_alloc {B : Nat} {w w' : World} (h : Below B w w') (hB : B ≤ w.heap.size) (o : Obj) : Below B w (w'.alloc o) := h.alloc (Nat.le_trans hB h.size) o
theorem on1 {B : Nat} {w w1 w2 : World} (h1 : Below B w w1) (h2 : Below w1.heap.size w1 w2) (hB : B ≤ w.heap.size) : Below B w w2 := h1.trans (h2.mono (Nat.le_trans hB h1.size))

set_option maxHeartbeats 1000000 in
theorem isName_any (k : Kd) (b : Nat) (s : Nm) (w : World) (hc : w.cell? ⟨b, 0, none⟩ = some (.string (bs s))) (hb : b < w.heap.size) :
    Calls Tryz.prog 91 #[k.one, .pointer (some ⟨b, 0, none⟩)] w fun e w' => e = .returned (.bool (k.nm == s)) ∧ w' = w.alloc (.cells #[.string (bs k.nm), k.vo, k.vf] 55) := by
  go_enter Tryz.func91, Tryz.ntmps91
  go_wp2
  go_ret
  exact ⟨by simp, rfl⟩
set_option maxHeartbeats 4000000 in
set_option maxRecDepth 100000 in
theorem idxF_some (b off cap : Nat) (L : List Kd) (bn : Nat) (s : Nm) (w : World) (hb : b < w.heap.size) (hL : LiesK w b off L) (hn : L.length ≤ 12) (hbn : bn < w.heap.size) (hc : w.cell? ⟨bn, 0, none⟩ = some (.string (bs s))) :
    Calls Tryz.prog 90 #[.slice (some ⟨b, off, none⟩) L.length cap, .func (.func 91) #[] #[.pointer (some ⟨bn, 0, none⟩)]] w fun e w' => e = .returned (.int .i64 (idxK s L 0)) ∧ Below w.heap.size w w' := by
  go_enter Tryz.func90, Tryz.ntmps90
  go_wp2
  go_loopw [8] (fun i wr => ∃ k : Nat, k ≤ L.length ∧ i = .int .i64 k ∧ idxK s L 0 = idxK s (L.drop k) k ∧ Below w.heap.size w wr) (fun i _ => L.length - (intOf i).toNat)
  case atStart => exact ⟨0, Nat.zero_le _, rfl, rfl, Below.refl _ _⟩
  case round =>
    obtain ⟨k, hk, rfl, hi, hB⟩ := hrel
    have HI : Hid (idxK s L 0 = idxK s (L.drop k) k) := hi
    clear hi
    by_cases hlt : k < L.length
    · obtain ⟨p, hp⟩ : ∃ p, L[k]? = some p := ⟨L[k], by simp [hlt]⟩
      obtain ⟨c0, c1, c2⟩ := hL k p hp
      have d0 := (hB.cell (p := ⟨b, off + k * 3, none⟩) hb).trans c0
      have d1 := (hB.cell (p := ⟨b, off + k * 3 + 1, none⟩) hb).trans c1
      have d2 := (hB.cell (p := ⟨b, off + k * 3 + 2, none⟩) hb).trans c2
      have HD : Hid (L.drop k = p :: L.drop (k + 1)) := dropK hp
      have cn := isName_any p bn s wr ((hB.cell (p := ⟨bn, 0, none⟩) hbn).trans hc) (Nat.lt_of_lt_of_le hbn hB.size)
      clear c0 c1 c2 hp hL hc
      by_cases hq : (p.nm == s) = true
      · have H : Hid (idxK s L 0 = k) := by
          show _ = _
          rw [HI.out, HD.out]; unfold idxK; rw [if_pos hq]
        rw [hq] at cn
        clear HI HD hq
        go_wp2_with (go_at_call 91; refine cn.mono ?_; rintro e w' ⟨rfl, rfl⟩)
        go_ret
        exact ⟨ret_v (by rw [H.out]; rfl), b_alloc hB (Nat.le_refl _) _⟩
      · have H : Hid (idxK s L 0 = idxK s (L.drop (k + 1)) (k + 1)) := by
          show _ = _
          rw [HI.out, HD.out]; conv => lhs; unfold idxK
          rw [if_neg hq]
        have hq' : (p.nm == s) = false := by simpa using hq
        rw [hq'] at cn
        clear HI HD hq hq'
        go_wp2_with (go_at_call 91; refine cn.mono ?_; rintro e w' ⟨rfl, rfl⟩)
        go_roundw
        case rel => exact ⟨k + 1, by omega, by go_num, H.out, b_alloc hB (Nat.le_refl _) _⟩
        case measure => simp [intOf]; omega
    · have hd : L.drop k = [] := List.drop_eq_nil_of_le (by omega)
      have H : Hid (idxK s L 0 = -1) := by
        show _ = _
        rw [HI.out, hd]; rfl
      clear HI hd hL hc
      go_wp2
      go_ret
      exact ⟨ret_v (by rw [H.out]; rfl), hB⟩
set_option maxHeartbeats 1000000 in
theorem idxF_nil (f : Value) (w : World) :
    Calls Tryz.prog 90 #[.slice none 0 0, f] w fun e w' => e = .returned (.int .i64 (-1)) ∧ Below w.heap.size w w' := by
  go_enter Tryz.func90, Tryz.ntmps90
  go_wp2
  go_loopw [8] (fun i wr => i = .int .i64 0 ∧ wr = w) (fun i _ => 0)
  case atStart => exact ⟨rfl, rfl⟩
  case round =>
    obtain ⟨rfl, rfl⟩ := hrel
    go_wp2
    go_ret
    exact ⟨rfl, Below.refl _ _⟩
theorem idxF_any {v : Value} {L : List Kd} {w : World} (h : IsK w v L) (hn : L.length ≤ 12) (bn : Nat) (s : Nm) (hbn : bn < w.heap.size) (hc : w.cell? ⟨bn, 0, none⟩ = some (.string (bs s))) :
    Calls Tryz.prog 90 #[v, .func (.func 91) #[] #[.pointer (some ⟨bn, 0, none⟩)]] w fun e w' => e = .returned (.int .i64 (idxK s L 0)) ∧ Below w.heap.size w w' := by
  rcases h with ⟨rfl, rfl⟩ | ⟨b, off, cap, rfl, hcap, hm, hb, hl⟩
  · exact idxF_nil _ w
  · exact idxF_some b off cap L bn s w hb hl hn hbn hc
set_option maxHeartbeats 1000000 in
theorem index_any {v : Value} {L : List Kd} {w : World} (h : IsK w v L) (hn : L.length ≤ 12) (s : Nm) :
    Calls Tryz.prog 67 #[v, .string (bs s)] w fun e w' => e = .returned (.int .i64 (idxK s L 0)) ∧ Below w.heap.size w w' := by
  have hB0 : Below w.heap.size w (w.alloc (.cells #[.string (bs s)] 9)) := b_alloc (Below.refl _ _) (Nat.le_refl _) _
  have c := idxF_any (h.on hB0) hn w.heap.size s (by simp) (by simp)
  generalize idxK s L 0 = r at c ⊢
  clear h hn
  go_enter Tryz.func67, Tryz.ntmps67
  go_wp2_with (go_at_call 90; refine c.mono ?_; rintro e w' ⟨rfl, hB1⟩)
  go_ret
  exact ⟨rfl, on1 hB0 hB1 (Nat.le_refl _)⟩

def idxS (nm : Nm) : List Nm → Nat → Int
  | [], _ => -1
  | p :: r, k => if (nm == p) = true then k else idxS nm r (k + 1)
theorem idxS_has (nm : Nm) (l : List Nm) : ∀ k : Nat, decide (0 ≤ idxS nm l k) = hasN l nm := by
  induction l with
  | nil => intro k; rfl
  | cons p r ih =>
    intro k
    by_cases h : (nm == p) = true
    · have e : idxS nm (p :: r) k = k := by unfold idxS; rw [if_pos h]
      have h2 : nm = p := by simpa using h
      rw [e]; unfold hasN; simp [h2]
    · have e : idxS nm (p :: r) k = idxS nm r (k + 1) := by
        conv => lhs; unfold idxS
        rw [if_neg h]
      have h2 : ¬ nm = p := by simpa using h
      rw [e, ih]; unfold hasN; simp [h2]
set_option maxHeartbeats 4000000 in
set_option maxRecDepth 100000 in
theorem idxS_some (b off cap : Nat) (L : List Nm) (s : Nm) (w : World) (hL : LiesS w b off L) (hn : L.length ≤ 1000) :
    Calls Tryz.prog 65 #[.slice (some ⟨b, off, none⟩) L.length cap, .string (bs s)] w fun e w' => e = .returned (.int .i64 (idxS s L 0)) ∧ w' = w := by
  go_enter Tryz.func65, Tryz.ntmps65
  go_wp2
  go_loop [8] (fun i => ∃ k : Nat, k ≤ L.length ∧ i = .int .i64 k ∧ idxS s L 0 = idxS s (L.drop k) k) (fun i => L.length - (intOf i).toNat)
  case atStart => exact ⟨0, Nat.zero_le _, rfl, rfl⟩
  case round =>
    obtain ⟨k, hk, rfl, hi⟩ := hrel
    have HI : Hid (idxS s L 0 = idxS s (L.drop k) k) := hi
    clear hi
    by_cases hlt : k < L.length
    · obtain ⟨p, hp⟩ : ∃ p, L[k]? = some p := ⟨L[k], by simp [hlt]⟩
      have c0 := hL k p hp
      have HD : Hid (L.drop k = p :: L.drop (k + 1)) := dropK hp
      clear hp hL
      by_cases hq : (s == p) = true
      · have H : Hid (idxS s L 0 = k) := by
          show _ = _
          rw [HI.out, HD.out]; unfold idxS; rw [if_pos hq]
        have hq2 : ((bs s).toList == (bs p).toList) = true := by simpa using hq
        clear HI HD
        go_wp2
        go_ret
        exact ⟨ret_v (by rw [H.out]; rfl), rfl⟩
      · have H : Hid (idxS s L 0 = idxS s (L.drop (k + 1)) (k + 1)) := by
          show _ = _
          rw [HI.out, HD.out]; conv => lhs; unfold idxS
          rw [if_neg hq]
        have hq' : (s == p) = false := by simpa using hq
        clear HI HD hq
        go_wp2
        go_round
        case rel => exact ⟨k + 1, by omega, by go_num, H.out⟩
        case measure => simp [intOf]; omega
    · have hd : L.drop k = [] := List.drop_eq_nil_of_le (by omega)
      have H : Hid (idxS s L 0 = -1) := by
        show _ = _
        rw [HI.out, hd]; rfl
      clear HI hd hL
      go_wp2
      go_ret
      exact ⟨ret_v (by rw [H.out]; rfl), rfl⟩
set_option maxHeartbeats 1000000 in
theorem idxS_nil (ao : Option Addr) (c : Nat) (s : Nm) (w : World) :
    Calls Tryz.prog 65 #[.slice ao 0 c, .string (bs s)] w fun e w' => e = .returned (.int .i64 (-1)) ∧ w' = w := by
  go_enter Tryz.func65, Tryz.ntmps65
  go_wp2
  go_loop [8] (fun i => i = .int .i64 0) (fun i => 0)
  case atStart => rfl
  case round =>
    obtain rfl := hrel
    go_wp2
    go_ret
    exact ⟨rfl, rfl⟩
theorem idxS_any {v : Value} {L : List Nm} {w : World} (h : IsS w v L) (hn : L.length ≤ 1000) (s : Nm) :
    Calls Tryz.prog 65 #[v, .string (bs s)] w fun e w' => e = .returned (.int .i64 (idxS s L 0)) ∧ w' = w := by
  rcases h with ⟨ao, c, rfl, rfl, _⟩ | ⟨b, off, cap, rfl, hcap, hm, hb, hl⟩
  · exact idxS_nil ao c _ w
  · exact idxS_some b off cap L s w hl hn
set_option maxHeartbeats 1000000 in
theorem contains_any {v : Value} {L : List Nm} {w : World} (h : IsS w v L) (hn : L.length ≤ 1000) (s : Nm) :
    Calls Tryz.prog 42 #[v, .string (bs s)] w fun e w' => e = .returned (.bool (hasN L s)) ∧ w' = w := by
  have c := idxS_any h hn s
  have H : Hid (decide (0 ≤ idxS s L 0) = hasN L s) := idxS_has s L 0
  generalize idxS s L 0 = r at c H
  clear h hn
  go_enter Tryz.func42, Tryz.ntmps42
  go_wp2_with (go_at_call 65; refine c.mono ?_; rintro e w' ⟨rfl, rfl⟩)
  go_ret
  exact ⟨ret_v (by rw [← H.out]; rfl), rfl⟩
end Go.Proofs.YtgjlonilbhlneaaGreatDoor
