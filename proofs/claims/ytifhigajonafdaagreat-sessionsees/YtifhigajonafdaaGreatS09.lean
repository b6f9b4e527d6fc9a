/-
  The walks of delta.findTie and what it calls: where a tie stands, or would stand.
-/
import Derived.Test.YtifhigajonafdaaGreatS04
import Derived.Test.YtifhigajonafdaaGreatS08
import Derived.WalkKit
import Derived.Lib.Walk
import Derived.Laws.AppendOwn
import Derived.Laws.CopyOwn
import Derived.Lib.AppendZerosOnto
import Derived.Lib.Overlaps
import Derived.Laws.NewBlocks
namespace Go.Proofs.YtifhigajonafdaaGreat
open Go.RowKit
set_option linter.unusedVariables false
set_option linter.unusedSimpArgs false

def loT (t : Te) : List Te → Nat
  | [] => 0
  | n :: r => if tCmp n t < 0 then loT t r + 1 else 0
theorem loT_le (t : Te) : ∀ l : List Te, loT t l ≤ l.length
  | [] => Nat.le_refl _
  | n :: r => by have := loT_le t r; unfold loT; split <;> simp <;> omega
theorem loT_spec (t : Te) : ∀ {l : List Te}, SrtT l → ∀ (i : Nat) (g : Te), l[i]? = some g → (i < loT t l ↔ tCmp g t < 0)
  | [], _, i, g, hg => by simp at hg
  | x :: r, h, i, g, hg => by
    obtain ⟨h1, h2⟩ := List.pairwise_cons.1 h
    by_cases hx : tCmp x t < 0
    · have e : loT t (x :: r) = loT t r + 1 := by simp [loT, hx]
      rw [e]
      cases i with
      | zero => simp at hg; subst hg; simp [hx]
      | succ i =>
        have := loT_spec t h2 i g (by simpa using hg)
        rw [← this]; omega
    · have e : loT t (x :: r) = 0 := by simp [loT, hx]
      rw [e]
      have hge : ¬ tCmp g t < 0 := by
        cases i with
        | zero => simp at hg; subst hg; exact hx
        | succ i =>
          intro hl
          have := h1 g (List.mem_of_getElem? (by simpa using hg))
          exact hx (tCmp_trans this hl)
      constructor
      · intro h; omega
      · intro h; exact absurd h hge
def fndT (t : Te) (T : List Te) : Bool := match T[loT t T]? with
  | some g => tCmp g t == 0
  | none => false

set_option maxHeartbeats 8000000 in
set_option maxRecDepth 100000 in
theorem searchT_some (b off cap : Nat) (L : List Te) (f : Te) (w : World) (hb : b < w.heap.size) (hL : LiesT w b off L) (hs : SrtT L) (hn : L.length ≤ 1000) :
    Calls Tryz.prog 146 #[.slice (some ⟨b, off, none⟩) L.length cap, f.one, .func (.func 91) #[] #[]] w fun e w' => e = .returned (.tuple #[.int .i64 (loT f L), .bool (fndT f L)]) ∧ Below w.heap.size w w' := by
  have hlo := loT_le f L
  have HS : Hid (LiesT w b off L ∧ SrtT L) := ⟨hL, hs⟩
  have hB0 : Below w.heap.size w (w.alloc (.cells #[.string f.bd, .int .i64 f.fr, .int .i64 f.tt] 54)) := b_allocK (Below.refl _ _) (Nat.le_refl _) _
  obtain ⟨w0, hw0⟩ : ∃ w0, w0 = w.alloc (.cells #[.string f.bd, .int .i64 f.fr, .int .i64 f.tt] 54) := ⟨_, rfl⟩
  have HW : Hid (w0.cell? ⟨w.heap.size, 0, none⟩ = some (.string f.bd) ∧ w0.cell? ⟨w.heap.size, 1, none⟩ = some (.int .i64 f.fr) ∧ w0.cell? ⟨w.heap.size, 2, none⟩ = some (.int .i64 f.tt) ∧ w.heap.size < w0.heap.size) := by
    subst hw0; refine ⟨?_, ?_, ?_, ?_⟩ <;> simp
  rw [← hw0] at hB0
  have HB0 : Hid (Below w.heap.size w w0) := hB0
  clear hL hs hB0
  go_enter Tryz.func146, Tryz.ntmps146
  go_wp2
  rw [← hw0]
  clear hw0
  go_loopw [9, 10] (fun i j wr => ∃ p q : Nat, p ≤ loT f L ∧ loT f L ≤ q ∧ q ≤ L.length ∧ i = .int .i64 p ∧ j = .int .i64 q ∧ Below w0.heap.size w0 wr) (fun i j _ => (intOf j).toNat - (intOf i).toNat)
  case atStart => exact ⟨0, L.length, Nat.zero_le _, hlo, Nat.le_refl _, rfl, rfl, Below.refl _ _⟩
  case round =>
    obtain ⟨p, q, h1, h2, h3, rfl, rfl, hB⟩ := hrel
    have HR : Hid (p ≤ loT f L ∧ loT f L ≤ q ∧ Below w0.heap.size w0 wr) := ⟨h1, h2, hB⟩
    obtain ⟨g0, g1, g2, g4⟩ := HW.out
    have e0 := (hB.cell (p := ⟨w.heap.size, 0, none⟩) g4).trans g0
    have e1 := (hB.cell (p := ⟨w.heap.size, 1, none⟩) g4).trans g1
    have e2 := (hB.cell (p := ⟨w.heap.size, 2, none⟩) g4).trans g2
    have hBw : Below w.heap.size w wr := on1K HB0.out hB (Nat.le_refl _)
    by_cases hlt : p < q
    · obtain ⟨m, hm⟩ : ∃ m, m = (p + q) / 2 := ⟨_, rfl⟩
      have hml : m < L.length := by omega
      have hmq : m < q := by omega
      have hpm : p ≤ m := by omega
      have hdiv : ((p : Int) + (q : Int)) / 2 = (m : Int) := by omega
      obtain ⟨x, hx⟩ : ∃ x, L[m]? = some x := ⟨L[m], by simp [hml]⟩
      obtain ⟨c0, c1, c2⟩ := HS.out.1 m x hx
      have d0 := (hBw.cell (p := ⟨b, off + m * 3, none⟩) hb).trans c0
      have d1 := (hBw.cell (p := ⟨b, off + m * 3 + 1, none⟩) hb).trans c1
      have d2 := (hBw.cell (p := ⟨b, off + m * 3 + 2, none⟩) hb).trans c2
      have hsp := loT_spec f HS.out.2 m x hx
      have cb := fun W => cmpT_any x f W
      obtain ⟨r, hr⟩ : ∃ r, tCmp x f = r := ⟨_, rfl⟩
      rw [hr] at cb hsp
      clear c0 c1 c2 g0 g1 g2 hr hx hm hB
      by_cases hr0 : r < 0
      · have HM : Hid (m + 1 ≤ loT f L) := hsp.2 hr0
        clear hsp h1 h2
        go_wp2_with fail
        try rw [hdiv]
        clear hdiv
        go_region_with (go_at_call 91; refine (cb _).mono ?_; rintro e W2 ⟨rfl, hB2⟩)
        all_goals
          go_wp2
          go_roundw
          case rel => exact ⟨m + 1, q, HM.out, HR.out.2.1, h3, by go_num, rfl, on1K HR.out.2.2.drew hB2 (Nat.le_refl _)⟩
          case measure => simp [intOf]; omega
      · have HM : Hid (loT f L ≤ m) := by
          show _ ≤ _
          have : ¬ m < loT f L := fun h => hr0 (hsp.1 h)
          omega
        clear hsp h1 h2
        go_wp2_with fail
        try rw [hdiv]
        clear hdiv
        go_region_with (go_at_call 91; refine (cb _).mono ?_; rintro e W2 ⟨rfl, hB2⟩)
        all_goals
          go_wp2
          go_roundw
          case rel => exact ⟨p, m, HR.out.1, HM.out, by omega, rfl, by go_num, on1K HR.out.2.2.drew hB2 (Nat.le_refl _)⟩
          case measure => simp [intOf]; omega
    · have hpl : p = loT f L := by omega
      by_cases hl : p < L.length
      · obtain ⟨x, hx⟩ : ∃ x, L[p]? = some x := ⟨L[p], by simp [hl]⟩
        obtain ⟨c0, c1, c2⟩ := HS.out.1 p x hx
        have d0 := (hBw.cell (p := ⟨b, off + p * 3, none⟩) hb).trans c0
        have d1 := (hBw.cell (p := ⟨b, off + p * 3 + 1, none⟩) hb).trans c1
        have d2 := (hBw.cell (p := ⟨b, off + p * 3 + 2, none⟩) hb).trans c2
        have cb := fun W => cmpT_any x f W
        have hfnd : fndT f L = (tCmp x f == 0) := by
          unfold fndT; rw [← hpl, hx]
        obtain ⟨r, hr⟩ : ∃ r, tCmp x f = r := ⟨_, rfl⟩
        rw [hr] at cb hfnd
        have HF : Hid (fndT f L = (r == 0) ∧ p = loT f L) := ⟨hfnd, hpl⟩
        have hpi : (p : Int) < (L.length : Int) := by omega
        clear c0 c1 c2 g0 g1 g2 hr hx hB hfnd hpl h1 h2
        have hbr : b < wr.heap.size := Nat.lt_of_lt_of_le hb hBw.size
        have htr : w.heap.size < wr.heap.size := Nat.lt_of_lt_of_le g4 HR.out.2.2.size
        obtain ⟨X, hX, F, hF1, hF2⟩ := after_all wr
        have k0 : ∀ y, (F y).cell? ⟨b, off + p * 3, none⟩ = some (.string x.bd) := fun y => ((hF1 y).cell (p := ⟨b, off + p * 3, none⟩) hbr).trans d0
        have k1 : ∀ y, (F y).cell? ⟨b, off + p * 3 + 1, none⟩ = some (.int .i64 x.fr) := fun y => ((hF1 y).cell (p := ⟨b, off + p * 3 + 1, none⟩) hbr).trans d1
        have k2 : ∀ y, (F y).cell? ⟨b, off + p * 3 + 2, none⟩ = some (.int .i64 x.tt) := fun y => ((hF1 y).cell (p := ⟨b, off + p * 3 + 2, none⟩) hbr).trans d2
        have l0 : ∀ y, (F y).cell? ⟨w.heap.size, 0, none⟩ = some (.string f.bd) := fun y => ((hF1 y).cell (p := ⟨w.heap.size, 0, none⟩) htr).trans e0
        have l1 : ∀ y, (F y).cell? ⟨w.heap.size, 1, none⟩ = some (.int .i64 f.fr) := fun y => ((hF1 y).cell (p := ⟨w.heap.size, 1, none⟩) htr).trans e1
        have l2 : ∀ y, (F y).cell? ⟨w.heap.size, 2, none⟩ = some (.int .i64 f.tt) := fun y => ((hF1 y).cell (p := ⟨w.heap.size, 2, none⟩) htr).trans e2
        have cF : ∀ y, Calls Tryz.prog 91 #[x.one, f.one] (F y) fun e w'' => e = .returned (.int .i64 r) ∧ ∃ z, w'' = F z := fun y => (cb (F y)).mono fun e w'' h => ⟨h.1, hF2 _ (on1K (hF1 y) h.2 (Nat.le_refl _))⟩
        have HX : Hid (∃ z, { wr with drawn := wr.drawn + 1 } = F z) := hF2 _ (Below.refl _ wr).drew
        have HF1 : Hid (∀ y, Below wr.heap.size wr (F y)) := hF1
        clear hF1 hF2 cb d0 d1 d2 e0 e1 e2
        go_wp2_with fail
        refine wp_region_after F (by kernel_rfl) (by kernel_rfl) HX.out ?_
        repeat (go_big_quiet_step (exact cF _))
        refine wpQuiet_nil ?_
        intro W2 hw2
        obtain ⟨y, rfl⟩ := hw2
        go_wp2
        go_ret2
        exact ⟨ret_v (by rw [HF.out.1, ← HF.out.2]; rfl), on1K hBw (HF1.out y) (Nat.le_refl _)⟩
      · have hfnd : fndT f L = false := by
          unfold fndT; rw [← hpl, List.getElem?_eq_none (by omega)]
        have HF : Hid (fndT f L = false ∧ p = loT f L) := ⟨hfnd, hpl⟩
        have hpi : ¬ (p : Int) < (L.length : Int) := by omega
        have hpd : decide ((p : Int) < (L.length : Int)) = false := by simpa using hpi
        clear g0 g1 g2 hB hfnd hpl h1 h2
        go_wp2_with fail
        go_quiet (fail)
        go_wp2
        go_ret2
        exact ⟨ret_v (by rw [HF.out.1, ← HF.out.2]; rfl), b_drewK hBw _⟩
set_option maxHeartbeats 4000000 in
theorem searchT_nil (ao : Option Addr) (c : Nat) (f : Te) (w : World) :
    Calls Tryz.prog 146 #[.slice ao 0 c, f.one, .func (.func 91) #[] #[]] w fun e w' => e = .returned (.tuple #[.int .i64 0, .bool false]) ∧ Below w.heap.size w w' := by
  have hB0 : Below w.heap.size w (w.alloc (.cells #[.string f.bd, .int .i64 f.fr, .int .i64 f.tt] 54)) := b_allocK (Below.refl _ _) (Nat.le_refl _) _
  obtain ⟨w0, hw0⟩ : ∃ w0, w0 = w.alloc (.cells #[.string f.bd, .int .i64 f.fr, .int .i64 f.tt] 54) := ⟨_, rfl⟩
  rw [← hw0] at hB0
  go_enter Tryz.func146, Tryz.ntmps146
  go_wp2
  rw [← hw0]
  clear hw0
  go_loopw [9, 10] (fun i j wr => i = .int .i64 0 ∧ j = .int .i64 0 ∧ wr = w0) (fun i j _ => 0)
  case atStart => exact ⟨rfl, rfl, rfl⟩
  case round =>
    obtain ⟨rfl, rfl, rfl⟩ := hrel
    go_wp2_with fail
    go_quiet (fail)
    go_wp2
    go_ret2
    exact ⟨rfl, b_drewK hB0 _⟩
theorem searchT_any {v : Value} {L : List Te} {w : World} (h : IsT w v L) (hs : SrtT L) (hn : L.length ≤ 1000) (f : Te) :
    Calls Tryz.prog 146 #[v, f.one, .func (.func 91) #[] #[]] w fun e w' => e = .returned (.tuple #[.int .i64 (loT f L), .bool (fndT f L)]) ∧ Below w.heap.size w w' := by
  obtain ⟨ao, c, rfl, hc, rfl | ⟨b, off, rfl, hb, hl⟩⟩ := h
  · exact searchT_nil ao c f w
  · exact searchT_some b off c L f w hb hl hs hn
set_option maxHeartbeats 1000000 in
theorem findTie_any {v : Value} {L : List Te} {w : World} (h : IsT w v L) (hs : SrtT L) (hn : L.length ≤ 1000) (f : Te) :
    Calls Tryz.prog 115 #[v, f.one] w fun e w' => e = .returned (.tuple #[.int .i64 (loT f L), .bool (fndT f L)]) ∧ Below w.heap.size w w' := by
  have hB0 : Below w.heap.size w (w.alloc (.cells #[.string f.bd, .int .i64 f.fr, .int .i64 f.tt] 54)) := b_allocK (Below.refl _ _) (Nat.le_refl _) _
  have cs := searchT_any (h.on hB0) hs hn f
  obtain ⟨ao, c, rfl, _⟩ := h
  generalize loT f L = lo at cs ⊢
  generalize fndT f L = fd at cs ⊢
  go_enter Tryz.func115, Tryz.ntmps115
  go_wp2_with (go_at_call 146; refine cs.mono ?_; rintro e W2 ⟨rfl, hB2⟩)
  go_ret2
  exact ⟨rfl, on1K hB0 hB2 (Nat.le_refl _)⟩
end Go.Proofs.YtifhigajonafdaaGreat

/-
  copy between slices whose elements have several cells; a row with one element more: laws of no program.
-/
namespace Go.Proofs.YtifhigajonafdaaGreat
open Go.RowKit Go.Lib
set_option linter.unusedVariables false
set_option linter.unusedSimpArgs false

theorem run_copy_rowN {P : Program} (w : World) (dT sT ty elem : TypeId) (size g o dLen dCap : Nat) (a : Addr) (sLen sCap : Nat) (cur : Array Value) (t : TypeId) (cs : List Value) (k : Nat)
    (hu : P.underlying dT = some (.slice elem)) (hs : (P.info? elem).map (·.size) = some size)
    (hg : w.heap[g]? = some (.cells cur t (0, 0))) (hk : Nat.min sLen dLen = k) (hn : cs.length = k * size)
    (hsrc : ∀ j v, cs[j]? = some v → w.cell? (a.add j) = some v) (hfit : o + cs.length ≤ cur.size) (h1 : ∀ v ∈ cs, v.oneCell' = true) :
    (Builtin.copy_ #[dT, sT] ty #[.slice (some ⟨g, o, none⟩) dLen dCap, .slice (some a) sLen sCap]).run P w =
      .ok (goInt k) (w.setRow g (cur.toList.take o ++ cs ++ cur.toList.drop (o + cs.length)).toArray) := by
  have hl := run_loadCells_list (P := P) w a cs hsrc
  have hst := run_storeCells_at P g o t cs 0 cur w hg (by simpa using hfit) h1
  cases hq : P.info? elem with
  | none => simp [hq] at hs
  | some i =>
    have hi : i.size = size := by simpa [hq] using hs
    simp [Builtin.copy_, run_underlying hu, Builtin.lenOf, Builtin.firstCells, sizeOf, typeInfo, hq, hi, hk, ← hn, hl, hst]

theorem wp_copy_runN {P : Program} (w : World) {o : Oper} {a : Act} {K : Act → World → Prop} {Q : Exit → Act → World → Prop} (d s : Operand) (t t' : TypeId)
    (ho : o.op = .call { callee := .builtin .copy, args := #[d, s], argTypes := #[t, t'] }) (v u : Value) (hd : a.eval d = v) (hs : a.eval s = u) {v' : Value} {w' : World}
    (hr : (Builtin.copy_ #[t, t'] o.type #[v, u]).run P w = .ok v' w') (h : K (a.put o.dst v') w') : o.wp P a w K Q := by
  unfold Oper.wp execOp
  simp only [ho, resolve, invoke, builtin, Sem.run_bind, Sem.run_pure, Result.andThen_ok, List.map_toArray, List.map_cons, List.map_nil, hd, hs, hr]
  exact h
theorem wpList_copy_runN {P : Program} (w : World) {ops : Array Oper} {rest : List Oper} {o : Oper} {a : Act} {Q : Exit → Act → World → Prop} (hgd : o.guard = none) (d s : Operand) (t t' : TypeId)
    (ho : o.op = .call { callee := .builtin .copy, args := #[d, s], argTypes := #[t, t'] }) (v u : Value) (hd : a.eval d = v) (hs : a.eval s = u) {v' : Value} {w' : World}
    (hr : (Builtin.copy_ #[t, t'] o.type #[v, u]).run P w = .ok v' w') (h : wpList P ops Q rest (a.put o.dst v') w') : wpList P ops Q (o :: rest) a w :=
  wpList_plain hgd fun _ hK => wp_copy_runN w d s t t' ho v u hd hs hr (hK _ _ h)
theorem step_copy_runN {P : Program} {ops : Array Oper} {o : Oper} {a : Act} {w : World} {K : Act → World → Prop} {Q : Exit → Act → World → Prop} {E : Prop}
    (hg : o.guard = none) (d x : Operand) (dT sT : TypeId) (hop : o.op = Op.call { callee := Callee.builtin Builtin.copy, args := #[d, x], argTypes := #[dT, sT] })
    (v u : Value) (hd : a.eval d = v) (hx : a.eval x = u) {v' : Value} {w' : World} (hr : (Builtin.copy_ #[dT, sT] o.type #[v, u]).run P w = .ok v' w') (hK : K (a.put o.dst v') w') :
    if Region.wanted o (yielded ops a.tmps) = true then Oper.wp P o a w K Q else E := by
  have hw : Region.wanted o (yielded ops a.tmps) = true := by simp [Region.wanted, hg]
  rw [if_pos hw]
  exact wp_copy_runN w d x dT sT hop v u hd hx hr hK

def lay (l : List Value) (o : Nat) (cs : List Value) : List Value := l.take o ++ cs ++ l.drop (o + cs.length)
theorem lay_len {l : List Value} {o : Nat} {cs : List Value} (h : o + cs.length ≤ l.length) : (lay l o cs).length = l.length := by simp [lay]; omega
theorem lay_room (l xs ys zs new : List Value) (hl : l = xs ++ ys ++ zs) (hz : new.length ≤ zs.length) :
    (lay (lay l (xs.length + new.length) ys) xs.length new).take (xs.length + new.length + ys.length) = xs ++ new ++ ys := by
  subst hl
  have e1 : (lay (xs ++ ys ++ zs) (xs.length + new.length) ys) = (xs ++ (ys ++ zs)).take (xs.length + new.length) ++ (ys ++ (xs ++ (ys ++ zs)).drop (xs.length + new.length + ys.length)) := by simp [lay]
  obtain ⟨u, hu, hul⟩ : ∃ u, (xs ++ (ys ++ zs)).take (xs.length + new.length) = xs ++ u ∧ u.length = new.length := ⟨(ys ++ zs).take new.length, by rw [List.take_append, List.take_of_length_le (by omega)]; congr 2; omega, by simp; omega⟩
  obtain ⟨t, ht⟩ : ∃ t, (xs ++ (ys ++ zs)).drop (xs.length + new.length + ys.length) = t := ⟨_, rfl⟩
  rw [e1, hu, ht]
  have e3 : lay (xs ++ u ++ (ys ++ t)) xs.length new = (xs ++ new ++ ys) ++ t := by
    unfold lay
    have h1 : (xs ++ u ++ (ys ++ t)).take xs.length = xs := by rw [show xs ++ u ++ (ys ++ t) = xs ++ (u ++ (ys ++ t)) by simp]; exact List.take_left
    have h2 : (xs ++ u ++ (ys ++ t)).drop (xs.length + new.length) = ys ++ t := List.drop_left' (by simp; omega)
    rw [h1, h2]; simp
  rw [e3]
  exact List.take_left' (by simp; omega)
theorem lay_grow (xs ys new zs : List Value) (hz : zs.length = new.length + ys.length) (t : List Value) :
    (lay (lay (xs ++ zs ++ t) xs.length new) (xs.length + new.length) ys).take (xs.length + new.length + ys.length) = xs ++ new ++ ys := by
  have e1 : lay (xs ++ zs ++ t) xs.length new = (xs ++ new) ++ (zs ++ t).drop new.length := by
    unfold lay
    rw [show xs ++ zs ++ t = xs ++ (zs ++ t) by simp, List.take_left, List.drop_append, List.drop_of_length_le (by omega)]
    simp
  rw [e1]
  unfold lay
  rw [show (xs ++ new ++ (zs ++ t).drop new.length).take (xs.length + new.length) = xs ++ new from List.take_left' (by simp)]
  exact List.take_left' (by simp; omega)

end Go.Proofs.YtifhigajonafdaaGreat
