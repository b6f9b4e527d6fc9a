import Derived.Test.YtahamkajkkkjdaaGreatDoorM14
import Derived.Laws.OwnMore
namespace Go.Proofs.YtahamkajkkkjdaaGreatDoor
open Go.RowKit
set_option linter.unusedVariables false
set_option linter.unusedSimpArgs false
def Kp (w w' : World) : Prop := w.heap.size ≤ w'.heap.size ∧ ∀ a v, w.cell? a = some v → w'.cell? a = some v
theorem cell_ltC {w : World} {a : Addr} {v : Value} (h : w.cell? a = some v) : a.block < w.heap.size := by
  unfold World.cell? at h
  rcases hb : w.heap[a.block]? with _ | o
  · rw [hb] at h; cases h
  · exact (Array.getElem?_eq_some_iff.1 hb).1
theorem Kp.of_below {w w' : World} (h : Below w.heap.size w w') : Kp w w' := ⟨h.size, fun a v ha => (h.cell (cell_ltC ha)).trans ha⟩
theorem Kp.of_but {w w' : World} {b : Nat} {es : Array MapEntry} {c : Nat} (hb : w.heap[b]? = some (.map es c)) (h : w.grownBy w' (some b)) : Kp w w' := ⟨h.size, fun a v ha => by
  have hne : a.block ≠ b := by
    intro e
    unfold World.cell? at ha
    rw [e, hb] at ha
    cases ha
  exact (World.cell?_of_block (h.block a.block (cell_ltC ha) (fun e => hne (by simpa using e)))).trans ha⟩
theorem Kp.trans {a b c : World} (h : Kp a b) (k : Kp b c) : Kp a c := ⟨Nat.le_trans h.1 k.1, fun x v hx => k.2 x v (h.2 x v hx)⟩
theorem Kp.refl (a : World) : Kp a a := ⟨Nat.le_refl _, fun _ _ h => h⟩
theorem LiesS.kp {w w' : World} {b off : Nat} {l : List Nm} (h : LiesS w b off l) (hB : Kp w w') : LiesS w' b off l := fun k n hn => hB.2 _ _ (h k n hn)
theorem IsS.kp {w w' : World} {v : Value} {l : List Nm} (h : IsS w v l) (hB : Kp w w') : IsS w' v l := by
  rcases h with h | ⟨b, off, cap, hv, hc, hm, hb, hl⟩
  · exact .inl h
  · exact .inr ⟨b, off, cap, hv, hc, hm, Nat.lt_of_lt_of_le hb hB.1, hl.kp hB⟩
theorem LiesF.kp {w w' : World} {b off : Nat} {l : List Fd} (h : LiesF w b off l) (hB : Kp w w') : LiesF w' b off l := fun k p hp => by
  obtain ⟨c0, c1, c2, c3⟩ := h k p hp
  exact ⟨hB.2 _ _ c0, hB.2 _ _ c1, hB.2 _ _ c2, hB.2 _ _ c3⟩
theorem IsF.kp {w w' : World} {v : Value} {l : List Fd} (h : IsF w v l) (hB : Kp w w') : IsF w' v l := by
  rcases h with h | ⟨b, off, cap, hv, hc, hm, hb, hl⟩
  · exact .inl h
  · exact .inr ⟨b, off, cap, hv, hc, hm, Nat.lt_of_lt_of_le hb hB.1, hl.kp hB⟩
theorem LiesB.kp {w w' : World} {b off : Nat} {l : List Bd} (h : LiesB w b off l) (hB : Kp w w') : LiesB w' b off l := fun k p hp => by
  obtain ⟨c0, c1, c2, c3, c4⟩ := h k p hp
  exact ⟨hB.2 _ _ c0, hB.2 _ _ c1, hB.2 _ _ c2, hB.2 _ _ c3, hB.2 _ _ c4⟩
theorem IsB.kp {w w' : World} {v : Value} {l : List Bd} (h : IsB w v l) (hB : Kp w w') : IsB w' v l := by
  rcases h with h | ⟨b, off, cap, hv, hc, hm, hb, hl⟩
  · exact .inl h
  · exact .inr ⟨b, off, cap, hv, hc, hm, Nat.lt_of_lt_of_le hb hB.1, hl.kp hB⟩
theorem IsR.kp {w w' : World} {v : Value} {L : List Pr} (h : IsR w v L) (hB : Kp w w') : IsR w' v L := by
  obtain ⟨ao, c, rfl, h0 | ⟨b, off, rfl, hb, hL⟩⟩ := h
  · exact ⟨ao, c, rfl, .inl h0⟩
  · refine ⟨_, c, rfl, .inr ⟨b, off, rfl, Nat.lt_of_lt_of_le hb hB.1, fun k p hp => ?_⟩⟩
    obtain ⟨c0, c1, c2, c3⟩ := hL k p hp
    exact ⟨hB.2 _ _ c0, hB.2 _ _ c1, hB.2 _ _ c2, hB.2 _ _ c3⟩
theorem LiesN.kp {w w' : World} {b off : Nat} {N : List Nd} (h : LiesN w b off N) (hB : Kp w w') : LiesN w' b off N := fun k n hn => by
  obtain ⟨c0, c1, c2, c3⟩ := h k n hn
  exact ⟨hB.2 _ _ c0, hB.2 _ _ c1, hB.2 _ _ c2, c3.kp hB⟩
theorem LiesT.kp {w w' : World} {b off : Nat} {T : List Te} (h : LiesT w b off T) (hB : Kp w w') : LiesT w' b off T := fun k n hn => by
  obtain ⟨c0, c1, c2⟩ := h k n hn
  exact ⟨hB.2 _ _ c0, hB.2 _ _ c1, hB.2 _ _ c2⟩
theorem IsN.kp {w w' : World} {v : Value} {N : List Nd} (h : IsN w v N) (hB : Kp w w') : IsN w' v N := by
  obtain ⟨ao, c, rfl, hc, h0 | ⟨b, off, rfl, hb, hL⟩⟩ := h
  · exact ⟨ao, c, rfl, hc, .inl h0⟩
  · exact ⟨_, c, rfl, hc, .inr ⟨b, off, rfl, Nat.lt_of_lt_of_le hb hB.1, hL.kp hB⟩⟩
theorem IsT.kp {w w' : World} {v : Value} {T : List Te} (h : IsT w v T) (hB : Kp w w') : IsT w' v T := by
  obtain ⟨ao, c, rfl, hc, h0 | ⟨b, off, rfl, hb, hL⟩⟩ := h
  · exact ⟨ao, c, rfl, hc, .inl h0⟩
  · exact ⟨_, c, rfl, hc, .inr ⟨b, off, rfl, Nat.lt_of_lt_of_le hb hB.1, hL.kp hB⟩⟩
theorem IsSh.kp {w w' : World} {v : Value} {h : Sh} (hs : IsSh w v h) (hB : Kp w w') : IsSh w' v h := by
  obtain ⟨a, b, c, rfl, h1, h2, h3⟩ := hs
  exact ⟨a, b, c, rfl, h1.kp hB, h2.kp hB, h3.kp hB⟩
theorem ShR.kp {w w' : World} {o : Option Value} {h : Option Sh} (hs : ShR w o h) (hB : Kp w w') : ShR w' o h := by
  rcases hs with h | ⟨v, s, h1, h2, h3⟩
  · exact .inl h
  · exact .inr ⟨v, s, h1, h2, h3.kp hB⟩
theorem MapSh.kp {κ : Type} {w w' : World} {k : TypeId} {enc : κ → Value} {b : Nat} {H : κ → Option Sh} (h : MapSh w k enc b H) (hb : w'.heap[b]? = w.heap[b]?) (hB : Kp w w') : MapSh w' k enc b H := by
  obtain ⟨F, h1, h2⟩ := h
  exact ⟨F, h1.of_block hb, fun x => (h2 x).kp hB⟩
theorem MapSh.lt {κ : Type} {w : World} {k : TypeId} {enc : κ → Value} {b : Nat} {H : κ → Option Sh} (h : MapSh w k enc b H) : b < w.heap.size := by
  obtain ⟨F, h1, h2⟩ := h
  exact h1.lt
theorem but_below {W0 wr W3 : World} {r : Option Nat} (h : W0.grownBy wr r) (h3 : Below wr.heap.size wr W3) : W0.grownBy W3 r :=
  ⟨h3.os.trans h.os, h3.tape.trans h.tape, h3.output.trans h.output, Nat.le_trans h.size h3.size, fun k hk hr => (h3.block k (Nat.lt_of_lt_of_le hk h.size)).trans (h.block k hk hr)⟩
theorem but_trans {W0 wr W3 : World} {r : Option Nat} (h : W0.grownBy wr r) (h3 : wr.grownBy W3 r) : W0.grownBy W3 r :=
  ⟨h3.os.trans h.os, h3.tape.trans h.tape, h3.output.trans h.output, Nat.le_trans h.size h3.size, fun k hk hr => (h3.block k (Nat.lt_of_lt_of_le hk h.size) hr).trans (h.block k hk hr)⟩
theorem but_app {W0 W3 w1 : World} {r s : Option Nat} (h : W0.grownBy W3 r) (h3 : W3.grownBy w1 s) (hs : ∀ g, s = some g → W0.heap.size ≤ g) : W0.grownBy w1 r :=
  ⟨h3.os.trans h.os, h3.tape.trans h.tape, h3.output.trans h.output, Nat.le_trans h.size h3.size, fun k hk hr => (h3.block k (Nat.lt_of_lt_of_le hk h.size) (fun e => by have := hs k e.symm; omega)).trans (h.block k hk hr)⟩
theorem but_of_below {w W : World} (h : Below w.heap.size w W) (r : Option Nat) : w.grownBy W r := ⟨h.os, h.tape, h.output, h.size, fun k hk _ => h.block k hk⟩
theorem below_but {w W : World} {B b : Nat} (h : w.grownBy W (some b)) (hB : B ≤ w.heap.size) (hb : B ≤ b) : Below B w W := ⟨h.os, h.tape, h.output, h.size, fun k hk => h.block k (by omega) (by simp; omega)⟩
theorem rget_ok {v : Value} {L : List Pr} {w : World} (h : IsR w v L) (hs : Sz L) (hr : rErr L = 0) (a : Nm) :
    Calls Tryz.prog 226 #[v, .string (bs a)] w fun e w' => e = .returned (.tuple #[.agg #[.int .i64 (valP (getP a L)).1, .int .i64 (valP (getP a L)).2.1, .string (valP (getP a L)).2.2], errV (if (getP a L).isNone = true then 5 else 0)]) ∧ Below w.heap.size w w' := by
  have c := get_any h hs (by have := rErr_len hr; unfold maxLen; omega) (bs a)
  rw [bs_toList] at c
  have e1 : getV a L = .agg #[.int .i64 (valP (getP a L)).1, .int .i64 (valP (getP a L)).2.1, .string (valP (getP a L)).2.2] ∧ rfErr a L = (if (getP a L).isNone = true then 5 else 0) := by
    unfold getV rfErr getP
    rw [if_pos hr]
    rcases idxP_spec a L 0 with hx | ⟨j, q, hx, hq, _⟩
    · rw [hx]; simp [valP]
    · rw [hx]
      have hne : ¬ ((0 + j : Nat) : Int) = -1 := by omega
      have ht : (((0 + j : Nat) : Int)).toNat = j := by omega
      rw [if_neg hne, if_neg hne, ht, hq]
      simp [valP]
  rw [e1.1, e1.2] at c
  exact c
theorem cellsX_one (l : List Ft) : ∀ u ∈ cellsX l, u.oneCell' = true := by
  intro u hu
  obtain ⟨f, _, hf⟩ := List.mem_flatMap.1 hu
  exact ft_one f u hf
theorem run_appX {w : World} {base base2 : Nat} {u1 u2 : Value} {l1 l2 : List Ft} (h1 : OwnX w base u1 l1) (h2 : OwnX w base2 u2 l2) (hl : l1.length + l2.length ≤ 100000) (hb : base ≤ w.heap.size) (ty : TypeId) :
    ∃ v' w', (Builtin.append_ #[188, 188] ty #[u1, u2]).run Tryz.prog w = .ok v' w' ∧ OwnX w' base v' (l1 ++ l2) ∧ w.grownBy w' u1.ownBlock := by
  obtain ⟨i0, hi0, hz0, hz1, hz2⟩ := info_parts infoX
  rcases h2.2 with ⟨rfl, hn⟩ | ⟨g, cap, cur, rfl, hbb, hg, rest⟩
  · have e : l2 = [] := List.eq_nil_of_length_eq_zero hn
    subst e
    refine ⟨u1, w, run_append_owned_none w base 188 ty 300 i0 3 Tryz.underlying188 hi0 u1 _ _ h1, by rw [List.append_nil]; exact h1, ⟨rfl, rfl, rfl, Nat.le_refl _, fun _ _ _ => rfl⟩⟩
  · obtain ⟨v', w', r1, r2, r3, _⟩ := run_append_own (P := Tryz.prog) w base 188 ty 300 i0 _ 3 32 Tryz.underlying188 hi0 hz0 hz1 hz2 rfl (by decide) u1 l1.length (cellsX l1) h1 ⟨g, 0, none⟩ l2.length cap (cellsX l2) (cellsX_len l2) (h2.cells rfl) (cellsX_one l2) (by unfold maxLen; omega) (by omega) hb
    exact ⟨v', w', r1, by unfold OwnX; rw [cellsX_app, List.length_append]; exact r2, r3⟩
theorem wp_appX {w : World} {o : Oper} {a : Act} {K : Act → World → Prop} {Q : Exit → Act → World → Prop} (s x : Operand) (ho : o.op = .call { callee := .builtin .append, args := #[s, x], argTypes := #[188, 188] })
    {base base2 : Nat} {u1 u2 : Value} {l1 l2 : List Ft} (hs : a.eval s = u1) (hx : a.eval x = u2) (h1 : OwnX w base u1 l1) (h2 : OwnX w base2 u2 l2) (hl : l1.length + l2.length ≤ 100000) (hb : base ≤ w.heap.size)
    (hK : ∀ v' w', OwnX w' base v' (l1 ++ l2) → w.grownBy w' u1.ownBlock → K (a.put o.dst v') w') : o.wp Tryz.prog a w K Q := by
  obtain ⟨v', w', hr, r2, r3⟩ := run_appX h1 h2 hl hb o.type
  unfold Oper.wp execOp
  simp only [ho, resolve, invoke, builtin, Sem.run_bind, Sem.run_pure, Result.andThen_ok, List.map_toArray, List.map_cons, List.map_nil, hs, hx, hr]
  exact hK v' w' r2 r3
theorem wpList_appX {w : World} {ops : Array Oper} {rest : List Oper} {o : Oper} {a : Act} {Q : Exit → Act → World → Prop} (hg : o.guard = none) (s x : Operand) (ho : o.op = .call { callee := .builtin .append, args := #[s, x], argTypes := #[188, 188] })
    {base base2 : Nat} {u1 u2 : Value} {l1 l2 : List Ft} (hs : a.eval s = u1) (hx : a.eval x = u2) (h1 : OwnX w base u1 l1) (h2 : OwnX w base2 u2 l2) (hl : l1.length + l2.length ≤ 100000) (hb : base ≤ w.heap.size)
    (hK : ∀ v' w', OwnX w' base v' (l1 ++ l2) → w.grownBy w' u1.ownBlock → wpList Tryz.prog ops Q rest (a.put o.dst v') w') : wpList Tryz.prog ops Q (o :: rest) a w := by
  refine wpList_plain hg fun K hK' => ?_
  exact wp_appX s x ho hs hx h1 h2 hl hb (fun v' w' r1 r2 => hK' _ _ (hK v' w' r1 r2))
theorem step_appX {w : World} {ops : Array Oper} {o : Oper} {a : Act} {K : Act → World → Prop} {Q : Exit → Act → World → Prop} {E : Prop} (hg : o.guard = none) (s x : Operand) (ho : o.op = .call { callee := .builtin .append, args := #[s, x], argTypes := #[188, 188] })
    {base base2 : Nat} {u1 u2 : Value} {l1 l2 : List Ft} (hs : a.eval s = u1) (hx : a.eval x = u2) (h1 : OwnX w base u1 l1) (h2 : OwnX w base2 u2 l2) (hl : l1.length + l2.length ≤ 100000) (hb : base ≤ w.heap.size)
    (hK : ∀ v' w', OwnX w' base v' (l1 ++ l2) → w.grownBy w' u1.ownBlock → K (a.put o.dst v') w') :
    if Region.wanted o (yielded ops a.tmps) = true then Oper.wp Tryz.prog o a w K Q else E := by
  have hw : Region.wanted o (yielded ops a.tmps) = true := by simp [Region.wanted, hg]
  rw [if_pos hw]
  exact wp_appX s x ho hs hx h1 h2 hl hb hK
theorem own_one (w : World) {base : Nat} (hb : base ≤ w.heap.size) (f : Ft) : OwnX (w.alloc (.cells #[.int .i64 f.wh, .int .i64 f.id, .string f.nm] 300)) base (.slice (some ⟨w.heap.size, 0, none⟩) 1 1) [f] := by
  have := World.ownsRow_lit (e := 300) (size := 3) (base := base) w #[.int .i64 f.wh, .int .i64 f.id, .string f.nm] 1 hb (by unfold maxLen; omega) rfl
  simpa [cellsX, Ft.cells, OwnX] using this
theorem own_but {w w' : World} {base : Nat} {u : Value} {l : List Ft} {bt : Nat} (h : OwnX w base u l) (hg : w.grownBy w' (some bt)) (hb : bt < base) : OwnX w' base u l := by
  refine World.ownsRow.kept h hg ?_
  cases hu : u.ownBlock with
  | none => exact .inl rfl
  | some g =>
    right
    intro e
    have := (World.ownsRow.lt h g hu).1
    have : g = bt := by simpa using e
    omega
end Go.Proofs.YtahamkajkkkjdaaGreatDoor
