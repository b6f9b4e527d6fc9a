/-
  Values as the keys of a map, and a range over a map of the call's own.
-/
import Derived.Test.YtodddcacngjadaaSrC
import Derived.Test.YtodddcacngjadaaMapM
import Derived.DeepKeys4
import Derived.RangeFuncGives
import Derived.Sort.MapsRangeIn
namespace Go.Proofs.Ytodddcacngjadaa
open Go.RowKit Go.MapKept
open Go.ChangeMaps (setBlock)
open Go.Maps (Keyed)
set_option linter.unusedVariables false
set_option linter.unusedSimpArgs false

theorem lay0 : laidOutB Try.prog = true := by kernel_rfl
/-- A value: its type, number and text. -/
structure V3 where
  t : Int
  n : Int
  s : ByteArray
  deriving DecidableEq
def cells3 (x : V3) : List Value := [.int .i64 x.t, .int .i64 x.n, .string x.s]
def enc3 (x : V3) : Value := .agg #[.int .i64 x.t, .int .i64 x.n, .string x.s]
theorem enc3_inj : ∀ x y, enc3 x = enc3 y → x = y := fun x y h => by
  obtain ⟨a, b, c⟩ := x
  obtain ⟨a', b', c'⟩ := y
  simpa [enc3] using h
theorem keyed3 : Keyed Try.prog 24 := Keyed.of_law (deep_law_laid lay0 (m := 4) (by omega) (of_decide_eq_true (by kernel_rfl)) (by kernel_rfl) (by rw [Try.underlying24]))
theorem zero3 (w : World) : (zeroValue 3).run Try.prog w = .ok (.int .i64 0) w := by kernel_rfl
def in64 (n : Int) : Prop := (Lit.int .i64 n).wf = true
theorem in64_of {n : Int} (h1 : -9223372036854775808 ≤ n) (h2 : n ≤ 9223372036854775807) : in64 n := by
  unfold in64
  have e1 : IntKind.i64.min = -9223372036854775808 := by decide
  have e2 : IntKind.i64.max = 9223372036854775807 := by decide
  simp [Lit.wf, e1, e2]
  omega
theorem kt24 : Try.prog.keyType 24 = true := by kernel_rfl
theorem co24 : Try.prog.cellsOf 24 = 3 := by kernel_rfl
theorem co9 : Try.prog.cellsOf 9 = 1 := by kernel_rfl
theorem co3 : Try.prog.cellsOf 3 = 1 := by kernel_rfl
theorem tys1 : 1 ≤ Try.prog.types.size := of_decide_eq_true (by kernel_rfl)
theorem klS (d : Nat) {s : ByteArray} (h : s.size ≤ maxLen) : Try.prog.keyLits (d + 1) 9 [.string s] = some [.string s.data.toList] := by
  simp only [Program.keyLits, Try.underlying9]; rw [if_pos h]
theorem klI (d : Nat) {n : Int} (h : in64 n) : Try.prog.keyLits (d + 1) 3 [.int .i64 n] = some [.int .i64 n] := by
  unfold in64 at h
  simp only [Program.keyLits, Try.underlying3]; rw [if_pos ⟨trivial, h⟩]
theorem kl24 (d : Nat) {t n : Int} {s : ByteArray} (h1 : in64 t) (h2 : in64 n) (h3 : s.size ≤ maxLen) : Try.prog.keyLits (d + 2) 24 [.int .i64 t, .int .i64 n, .string s] = some [.int .i64 t, .int .i64 n, .string s.data.toList] := by
  conv => lhs; unfold Program.keyLits
  rw [Try.underlying24]
  simp [co24, co9, co3, klS _ h3, klI _ h2, klI _ h1]
theorem key3 {x : V3} (h1 : in64 x.t) (h2 : in64 x.n) (h3 : x.s.size ≤ maxLen) : ∃ l, keyOf Try.prog 24 (enc3 x) = some l := by
  have hf : (enc3 x).formed Try.prog 24 = true := by simp [enc3, Value.formed, Try.underlying24, co24]
  unfold keyOf
  rw [Try.underlying24, kt24, hf]
  have := kl24 (Try.prog.types.size - 1) h1 h2 h3
  simp only [Bool.and_self, if_true]
  rw [show (enc3 x).cells.toList = [.int .i64 x.t, .int .i64 x.n, .string x.s] from rfl, show Try.prog.types.size + 1 = (Try.prog.types.size - 1) + 2 by have := tys1; omega, this]
  exact ⟨_, rfl⟩

section
variable {κ : Type} {w : World} {P : Program} {k : TypeId} {enc : κ → Value} {b : Nat} {F : κ → Option Value}
/-- A range under way: which keys have come. -/
def RgM (w : World) (P : Program) (k : TypeId) (enc : κ → Value) (b r : Nat) (F : κ → Option Value) (ss : List κ) : Prop :=
  ∃ es clock since seen c0, w.heap[b]? = some (.map es clock) ∧ Stamped es clock ∧ (∀ e ∈ es.toList, ∃ x l, e.key = enc x ∧ keyOf P k e.key = some l ∧ F x = some e.val) ∧ (∀ x v, F x = some v → ∃ e ∈ es.toList, e.key = enc x ∧ e.val = v) ∧
    w.heap[r]? = some (.mapIter (some b) since seen c0) ∧ (∀ x ∈ es.toList, x.born < since) ∧ since ≤ c0 ∧ since ≤ clock ∧
    ss.Nodup ∧ (∀ x ∈ ss, ∃ e ∈ es.toList, e.key = enc x ∧ seen.contains e.born = true) ∧ (∀ e ∈ es.toList, seen.contains e.born = true → ∃ x ∈ ss, e.key = enc x)
theorem RgM.walks {w' : World} {r : Nat} {ss : List κ} (h : RgM w P k enc b r F ss) (hk : KeepsWalks w w') : RgM w' P k enc b r F ss := by
  obtain ⟨es, clock, since, seen, c0, hb, h1, h2, h3, hr, rest⟩ := h
  exact ⟨es, clock, since, seen, c0, hk.same b _ hb rfl, h1, h2, h3, hk.same r _ hr rfl, rest⟩
theorem RgM.iter_walk {r : Nat} {ss : List κ} (h : RgM w P k enc b r F ss) : ∃ o : Obj, w.heap[r]? = some o ∧ o.isWalk = true := by
  obtain ⟨es, clock, since, seen, c0, _, _, _, _, hr, _⟩ := h
  exact ⟨_, hr, rfl⟩
theorem RgM.range {t e : TypeId} (h : OwnM w P k enc b F) (ht : P.underlying t = some (.map k e)) :
    ∃ w', (Instr.range t (.map (some b))).run P w = .ok (.pointer (some ⟨w.heap.size, 0, none⟩)) w' ∧ RgM w' P k enc b w.heap.size F [] ∧ w.grownBy w' none ∧ w'.heap.size = w.heap.size + 1 := by
  have hlt := h.lt
  obtain ⟨es, clock, hb, hs, h1, h2⟩ := h
  refine ⟨_, run_range_map w t k e b es clock ht hb, ⟨es, clock, clock, #[], clock, ((MapKept.heap_alloc w _).2 b hlt).trans hb, hs, h1, h2, (MapKept.heap_alloc w _).1, hs.1, Nat.le_refl _, Nat.le_refl _, List.nodup_nil, by simp, by simp⟩, World.grownBy_alloc w _ none, by simp⟩
theorem left_at {W : World} {b r : Nat} {es : Array MapEntry} {c : Nat} {m : Option Nat} {s : Nat} {sn : Array Nat} {c0 : Nat} (h1 : W.heap[b]? = some (.map es c)) (h2 : W.heap[r]? = some (.mapIter m s sn c0)) : W.rangeLeft b r = (leftOf es sn).size := by
  unfold World.rangeLeft
  rw [h1, h2]
theorem RgM.left_walks {w' : World} {r : Nat} {ss : List κ} (h : RgM w P k enc b r F ss) (hk : KeepsWalks w w') : w'.rangeLeft b r = w.rangeLeft b r := by
  obtain ⟨es, clock, since, seen, c0, hb, h1, h2, h3, hr, rest⟩ := h
  rw [left_at hb hr, left_at (hk.same b _ hb rfl) (hk.same r _ hr rfl)]
theorem RgM.next {r : Nat} {ss : List κ} (h : RgM w P k enc b r F ss) (hinj : ∀ x y, enc x = enc y → x = y) (ty : TypeId) :
    ((∀ x, x ∈ ss ↔ F x ≠ none) ∧ (Instr.next (.pointer (some ⟨r, 0, none⟩)) false ty).run P w = .ok (.tuple #[.bool false]) w) ∨
    ∃ x v w', F x = some v ∧ (Instr.next (.pointer (some ⟨r, 0, none⟩)) false ty).run P w = .ok (.tuple #[.bool true, enc x, v]) w' ∧ RgM w' P k enc b r F (ss ++ [x]) ∧ w'.rangeLeft b r < w.rangeLeft b r ∧ w.grownBy w' (some r) ∧ w'.heap.size = w.heap.size ∧
      (Instr.entry (.pointer (some ⟨r, 0, none⟩))).run P w' = .ok (.tuple #[enc x, v]) w' := by
  obtain ⟨es, clock, since, seen, c0, hb, hs, h1, h2, hr, hold, hsc, hsk, hnd, hin, hout⟩ := h
  have hne : r ≠ b := fun e => by rw [e, hb] at hr; cases hr
  have hst := (stamped_iff es clock).1 hs
  rcases run_next_at (P := P) w ty r b since c0 seen es clock hr hb hold hsc with ⟨h0, hrun⟩ | ⟨e, he, w1, hal, hrun⟩
  · refine Or.inl ⟨fun x => ⟨fun hx => ?_, fun hx => ?_⟩, hrun⟩
    · obtain ⟨e, he, hk, _⟩ := hin x hx
      obtain ⟨y, l, g1, _, g3⟩ := h1 e he
      obtain rfl := hinj _ _ (hk.symm.trans g1)
      rw [g3]; simp
    · obtain ⟨v, hv⟩ := Option.ne_none_iff_exists'.1 hx
      obtain ⟨e, he, hk, _⟩ := h2 x v hv
      obtain ⟨y, hy, hky⟩ := hout e he (all_seen es seen h0 e he)
      obtain rfl := hinj _ _ (hk.symm.trans hky)
      exact hy
  · obtain ⟨hem, hes⟩ := mem_left he
    obtain ⟨x, l, g1, g2, g3⟩ := h1 e hem
    have hr1 : w1.heap[r]? = some (.mapIter (some b) since seen c0) := by rcases hal with rfl | rfl <;> exact hr
    have hb1 : w1.heap[b]? = some (.map es clock) := by rcases hal with rfl | rfl <;> exact hb
    have hset := heap_set (o' := .mapIter (some b) since (seen.push e.born) clock) hr1
    have hb' : (setBlock w1 r (.mapIter (some b) since (seen.push e.born) clock)).heap[b]? = some (.map es clock) := (hset.2 b (fun e1 => hne e1.symm)).trans hb1
    have hen : (Instr.entry (.pointer (some ⟨r, 0, none⟩))).run P (setBlock w1 r (.mapIter (some b) since (seen.push e.born) clock)) = .ok (.tuple #[e.key, e.val]) (setBlock w1 r (.mapIter (some b) since (seen.push e.born) clock)) :=
      run_entry_at _ r b since seen es clock e hset.1 hb' hem hst.2.1
    rw [g1] at hrun hen
    have hnew : x ∉ ss := fun hx => by
      obtain ⟨e', he', hk', hc'⟩ := hin x hx
      obtain rfl := key_once hs hem he' (g1.trans hk'.symm)
      rw [hes] at hc'; cases hc'
    refine Or.inr ⟨x, e.val, _, g3, hrun, ⟨es, clock, since, seen.push e.born, clock, hb', hs, h1, h2, hset.1, hold, hsk, hsk, ?_, ?_, ?_⟩, ?_, ?_, ?_, hen⟩
    · exact List.nodup_append.2 ⟨hnd, by simp, fun a ha c hc => by simp at hc; subst hc; exact fun e => hnew (e ▸ ha)⟩
    · intro y hy
      rcases List.mem_append.1 hy with hy | hy
      · obtain ⟨e', he', hk', hc'⟩ := hin y hy
        exact ⟨e', he', hk', by rw [contains_push, hc']; rfl⟩
      · simp at hy; subst hy
        exact ⟨e, hem, g1, by rw [contains_push]; simp⟩
    · intro e' he' hc
      rw [contains_push] at hc
      rcases Bool.or_eq_true_iff.1 hc with hc | hc
      · obtain ⟨y, hy, hk'⟩ := hout e' he' hc
        exact ⟨y, List.mem_append_left _ hy, hk'⟩
      · obtain rfl := born_inj hst.2.1 he' hem (by simpa using hc)
        exact ⟨x, by simp, g1⟩
    · rw [left_at hb' hset.1, left_at hb hr]
      exact left_shrinks es seen e he
    · rcases hal with rfl | rfl <;> exact ⟨rfl, rfl, rfl, by simp [setBlock], fun i _ hi => hset.2 i (fun e1 => hi (by rw [e1]))⟩
    · rcases hal with rfl | rfl <;> simp [setBlock]
end

section
variable {κ : Type} {F : Fence} {n : Nat} {P : Program} {ops : Array Oper} {rest : List Oper} {o : Oper} {a : Act} {Q : Exit → Act → World → Prop}
theorem wpIn_rangeM (w : World) (hg : o.guard = none) (m : Operand) (t : TypeId) (hop : o.op = Op.range t m) {k e : TypeId} (ht : P.underlying t = some (.map k e)) {enc : κ → Value} {b : Nat} {G : κ → Option Value} (hm : a.eval m = .map (some b)) (hown : OwnM w P k enc b G)
    (hK : ∀ w', RgM w' P k enc b w.heap.size G [] → w.grownBy w' none → w'.heap.size = w.heap.size + 1 → wpListIn F n P ops Q rest (a.put o.dst (.pointer (some ⟨w.heap.size, 0, none⟩))) w') :
    wpListIn F n P ops Q (o :: rest) a w := by
  refine wpListIn_plain hg fun K' hK' => ?_
  obtain ⟨w', hrun, r1, r2, r3⟩ := RgM.range hown ht
  unfold Oper.wpIn
  refine ⟨?_, ?_⟩
  · simp [Oper.about, hop]
  · rw [Oper.semAt_plain F _ _ (by rw [hop]; intro c hc'; cases hc')]
    simp [execOp, hop, hm, hrun, Result.andThen]
    exact hK' _ _ (hK w' r1 r2 r3)
theorem wpIn_nextM (w : World) (hg : o.guard = none) (it : Operand) (hop : o.op = Op.next it false) {k : TypeId} {enc : κ → Value} {b r : Nat} {G : κ → Option Value} {ss : List κ} (hinj : ∀ x y, enc x = enc y → x = y) (hit : a.eval it = .pointer (some ⟨r, 0, none⟩)) (h : RgM w P k enc b r G ss)
    (hDone : (∀ x, x ∈ ss ↔ G x ≠ none) → wpListIn F n P ops Q rest (a.put o.dst (.tuple #[.bool false])) w)
    (hMore : ∀ (x : κ) (v : Value) (w' : World), G x = some v → RgM w' P k enc b r G (ss ++ [x]) → w'.rangeLeft b r < w.rangeLeft b r → w.grownBy w' (some r) → w'.heap.size = w.heap.size →
      (Instr.entry (.pointer (some ⟨r, 0, none⟩))).run P w' = .ok (.tuple #[enc x, v]) w' → wpListIn F n P ops Q rest (a.put o.dst (.tuple #[.bool true, enc x, v])) w') :
    wpListIn F n P ops Q (o :: rest) a w := by
  refine wpListIn_plain hg fun K' hK' => ?_
  unfold Oper.wpIn
  refine ⟨by simp [Oper.about, hop], ?_⟩
  rw [Oper.semAt_plain F _ _ (by rw [hop]; intro c hc'; cases hc')]
  rcases h.next hinj o.type with ⟨hl, hrun⟩ | ⟨x, v, w', hv, hrun, hrg, hlt, hgr, hsz, hen⟩
  · simp [execOp, hop, hit, hrun, Result.andThen]
    exact hK' _ _ (hDone hl)
  · simp [execOp, hop, hit, hrun, Result.andThen]
    exact hK' _ _ (hMore x v w' hv hrg hlt hgr hsz hen)
end
end Go.Proofs.Ytodddcacngjadaa
