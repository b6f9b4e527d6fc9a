/-
  The walks of strings.Compare, of the comparison of two fields, and of slices.BinarySearchFunc with it.
-/
import Derived.Test.YtgjlonilbhlneaaDoorKinF
import Derived.Laws.Externs
namespace Go.Proofs.YtgjlonilbhlneaaDoor
open Go.RowKit
set_option linter.unusedVariables false
set_option linter.unusedSimpArgs false

set_option maxHeartbeats 1000000 in
set_option maxRecDepth 100000 in
theorem cmpString_any (a b : ByteArray) (w : World) :
    Calls Tryd.prog 52 #[.string a, .string b] w fun e w' => e = .returned (.int .i64 (Lib.compareBytes a.data.toList b.data.toList)) ∧ w' = w := by
  go_enter Tryd.func52, Tryd.ntmps52
  go_wp2
  rw [run_callFunc_extern Tryd.func60 (by kernel_rfl) (by kernel_rfl) (by kernel_rfl) (e := Extern.BytealgCompare.compare) (by kernel_rfl), Lib.run_compareString]
  simp only [Result.andThen]
  rw [Oper.upon_value]
  go_wp2
  go_ret
  exact ⟨rfl, rfl⟩
set_option maxHeartbeats 1000000 in
theorem compare_any (a b : ByteArray) (w : World) :
    Calls Tryd.prog 42 #[.string a, .string b] w fun e w' => e = .returned (.int .i64 (Lib.compareBytes a.data.toList b.data.toList)) ∧ w' = w := by
  go_enter Tryd.func42, Tryd.ntmps42
  go_wp2_with (go_at_call 52; refine (cmpString_any _ _ _).mono ?_; rintro e w' ⟨rfl, rfl⟩)
  go_ret
  exact ⟨rfl, rfl⟩
set_option maxHeartbeats 1000000 in
theorem byName_any (f g : Fd) (w : World) :
    Calls Tryd.prog 41 #[f.one, g.one] w fun e w' => e = .returned (.int .i64 (Lib.compareBytes f.nm g.nm)) ∧ Below w.heap.size w w' := by
  have c := fun w => compare_any (bs f.nm) (bs g.nm) w
  simp only [bs_data] at c
  generalize Lib.compareBytes f.nm g.nm = r at c ⊢
  go_enter Tryd.func41, Tryd.ntmps41
  go_wp2_with (go_at_call 42; refine (c _).mono ?_; rintro e w' ⟨rfl, rfl⟩)
  go_ret
  exact ⟨rfl, b_alloc (b_alloc (Below.refl _ _) (Nat.le_refl _) _) (Nat.le_refl _) _⟩

/-- A region that draws, whose operations read what is the same in every world that comes after this one: walked once. -/
theorem wp_region_after {P : Program} {X : Type} (F : X → World) {id : Nat} {Q : Exit → Act → World → Prop} {a : Act} {w : World} {l : List Oper} (hm : P.follows .mixedOrders = true) (hB : Region.lexB .any l.toArray = true)
    (hC : ∃ x, { w with drawn := w.drawn + 1 } = F x) (h : wpQuiet P l.toArray (fun w' => ∃ x, w' = F x) (fun a' => ∀ w', (∃ x, w' = F x) → Q .normal a' w') l a) : (Code.region id l.toArray true).wp P Q a w :=
  wp_region_quiet (C := fun w' => ∃ x, w' = F x) hm hB hC (by simpa using h)
/-- The worlds after this one, by a name each. -/
theorem after_all (w : World) : ∃ (X : Type) (_ : Nonempty X) (F : X → World), (∀ x, Below w.heap.size w (F x)) ∧ (∀ W, Below w.heap.size w W → ∃ x, W = F x) :=
  ⟨{ W // Below w.heap.size w W }, ⟨⟨w, Below.refl _ _⟩⟩, Subtype.val, fun x => x.2, fun W h => ⟨⟨W, h⟩, rfl⟩⟩

/-- Is a name there, where it would stand? -/
def fnd (nm : Nm) (all : List Fd) : Bool := match all[lo nm all]? with
  | some g => g.nm == nm
  | none => false

set_option maxHeartbeats 8000000 in
set_option maxRecDepth 100000 in
theorem search_some (b off cap : Nat) (L : List Fd) (f : Fd) (w : World) (hb : b < w.heap.size) (hL : LiesF w b off L) (hs : Srt L) (hn : L.length ≤ 96) :
    Calls Tryd.prog 43 #[.slice (some ⟨b, off, none⟩) L.length cap, f.one, .func (.func 41) #[] #[]] w fun e w' => e = .returned (.tuple #[.int .i64 (lo f.nm L), .bool (fnd f.nm L)]) ∧ Below w.heap.size w w' := by
  have hlo := lo_le f.nm L
  have HS : Hid (LiesF w b off L ∧ Srt L) := ⟨hL, hs⟩
  have hB0 : Below w.heap.size w (w.alloc (.cells #[.string (bs f.nm), .int .i64 f.t, .bool f.must, .bool f.key] 52)) := b_alloc (Below.refl _ _) (Nat.le_refl _) _
  obtain ⟨w0, hw0⟩ : ∃ w0, w0 = w.alloc (.cells #[.string (bs f.nm), .int .i64 f.t, .bool f.must, .bool f.key] 52) := ⟨_, rfl⟩
  have HW : Hid (w0.cell? ⟨w.heap.size, 0, none⟩ = some (.string (bs f.nm)) ∧ w0.cell? ⟨w.heap.size, 1, none⟩ = some (.int .i64 f.t) ∧ w0.cell? ⟨w.heap.size, 2, none⟩ = some (.bool f.must) ∧ w0.cell? ⟨w.heap.size, 3, none⟩ = some (.bool f.key) ∧ w.heap.size < w0.heap.size) := by
    subst hw0; refine ⟨?_, ?_, ?_, ?_, ?_⟩ <;> simp
  rw [← hw0] at hB0
  have HB0 : Hid (Below w.heap.size w w0) := hB0
  clear hL hs hB0
  go_enter Tryd.func43, Tryd.ntmps43
  go_wp2
  rw [← hw0]
  clear hw0
  go_loopw [9, 10] (fun i j wr => ∃ p q : Nat, p ≤ lo f.nm L ∧ lo f.nm L ≤ q ∧ q ≤ L.length ∧ i = .int .i64 p ∧ j = .int .i64 q ∧ Below w0.heap.size w0 wr) (fun i j _ => (intOf j).toNat - (intOf i).toNat)
  case atStart => exact ⟨0, L.length, Nat.zero_le _, hlo, Nat.le_refl _, rfl, rfl, Below.refl _ _⟩
  case round =>
    obtain ⟨p, q, h1, h2, h3, rfl, rfl, hB⟩ := hrel
    have HR : Hid (p ≤ lo f.nm L ∧ lo f.nm L ≤ q ∧ Below w0.heap.size w0 wr) := ⟨h1, h2, hB⟩
    obtain ⟨g0, g1, g2, g3, g4⟩ := HW.out
    have e0 := (hB.cell (p := ⟨w.heap.size, 0, none⟩) g4).trans g0
    have e1 := (hB.cell (p := ⟨w.heap.size, 1, none⟩) g4).trans g1
    have e2 := (hB.cell (p := ⟨w.heap.size, 2, none⟩) g4).trans g2
    have e3 := (hB.cell (p := ⟨w.heap.size, 3, none⟩) g4).trans g3
    have hBw : Below w.heap.size w wr := on1 HB0.out hB (Nat.le_refl _)
    by_cases hlt : p < q
    · obtain ⟨m, hm⟩ : ∃ m, m = (p + q) / 2 := ⟨_, rfl⟩
      have hml : m < L.length := by omega
      have hmq : m < q := by omega
      have hpm : p ≤ m := by omega
      have hdiv : ((p : Int) + (q : Int)) / 2 = (m : Int) := by omega
      obtain ⟨x, hx⟩ : ∃ x, L[m]? = some x := ⟨L[m], by simp [hml]⟩
      obtain ⟨c0, c1, c2, c3⟩ := HS.out.1 m x hx
      have d0 := (hBw.cell (p := ⟨b, off + m * 4, none⟩) hb).trans c0
      have d1 := (hBw.cell (p := ⟨b, off + m * 4 + 1, none⟩) hb).trans c1
      have d2 := (hBw.cell (p := ⟨b, off + m * 4 + 2, none⟩) hb).trans c2
      have d3 := (hBw.cell (p := ⟨b, off + m * 4 + 3, none⟩) hb).trans c3
      have hsp := lo_spec f.nm HS.out.2 m x hx
      rw [less_cmp, decide_eq_true_iff] at hsp
      have cb := fun W => byName_any x f W
      obtain ⟨r, hr⟩ : ∃ r, Lib.compareBytes x.nm f.nm = r := ⟨_, rfl⟩
      rw [hr] at cb hsp
      clear c0 c1 c2 c3 g0 g1 g2 g3 hr hx hm hB
      by_cases hr0 : r < 0
      · have HM : Hid (m + 1 ≤ lo f.nm L) := hsp.2 hr0
        clear hsp h1 h2
        go_wp2_with fail
        try rw [hdiv]
        clear hdiv
        go_region_with (go_at_call 41; refine (cb _).mono ?_; rintro e W2 ⟨rfl, hB2⟩)
        all_goals
          go_wp2
          go_roundw
          case rel => exact ⟨m + 1, q, HM.out, HR.out.2.1, h3, by go_num, rfl, on1 HR.out.2.2.drew hB2 (Nat.le_refl _)⟩
          case measure => simp [intOf]; omega
      · have HM : Hid (lo f.nm L ≤ m) := by
          show _ ≤ _
          have : ¬ m < lo f.nm L := fun h => hr0 (hsp.1 h)
          omega
        clear hsp h1 h2
        go_wp2_with fail
        try rw [hdiv]
        clear hdiv
        go_region_with (go_at_call 41; refine (cb _).mono ?_; rintro e W2 ⟨rfl, hB2⟩)
        all_goals
          go_wp2
          go_roundw
          case rel => exact ⟨p, m, HR.out.1, HM.out, by omega, rfl, by go_num, on1 HR.out.2.2.drew hB2 (Nat.le_refl _)⟩
          case measure => simp [intOf]; omega
    · have hpl : p = lo f.nm L := by omega
      by_cases hl : p < L.length
      · obtain ⟨x, hx⟩ : ∃ x, L[p]? = some x := ⟨L[p], by simp [hl]⟩
        obtain ⟨c0, c1, c2, c3⟩ := HS.out.1 p x hx
        have d0 := (hBw.cell (p := ⟨b, off + p * 4, none⟩) hb).trans c0
        have d1 := (hBw.cell (p := ⟨b, off + p * 4 + 1, none⟩) hb).trans c1
        have d2 := (hBw.cell (p := ⟨b, off + p * 4 + 2, none⟩) hb).trans c2
        have d3 := (hBw.cell (p := ⟨b, off + p * 4 + 3, none⟩) hb).trans c3
        have cb := fun W => byName_any x f W
        have hz := cmpB_zero x.nm f.nm
        have hfnd : fnd f.nm L = (Lib.compareBytes x.nm f.nm == 0) := by
          unfold fnd; rw [← hpl, hx]; simp only
          rw [Bool.eq_iff_iff, beq_iff_eq, beq_iff_eq]; exact hz.symm
        obtain ⟨r, hr⟩ : ∃ r, Lib.compareBytes x.nm f.nm = r := ⟨_, rfl⟩
        rw [hr] at cb hfnd
        have HF : Hid (fnd f.nm L = (r == 0) ∧ p = lo f.nm L) := ⟨hfnd, hpl⟩
        have hqp : q = p ∨ ¬ q = p := by omega
        have hpi : (p : Int) < (L.length : Int) := by omega
        clear c0 c1 c2 c3 g0 g1 g2 g3 hr hx hB hz hfnd hpl h1 h2 hqp
        have hbr : b < wr.heap.size := Nat.lt_of_lt_of_le hb hBw.size
        have htr : w.heap.size < wr.heap.size := Nat.lt_of_lt_of_le g4 HR.out.2.2.size
        obtain ⟨X, hX, F, hF1, hF2⟩ := after_all wr
        have k0 : ∀ y, (F y).cell? ⟨b, off + p * 4, none⟩ = some (.string (bs x.nm)) := fun y => ((hF1 y).cell (p := ⟨b, off + p * 4, none⟩) hbr).trans d0
        have k1 : ∀ y, (F y).cell? ⟨b, off + p * 4 + 1, none⟩ = some (.int .i64 x.t) := fun y => ((hF1 y).cell (p := ⟨b, off + p * 4 + 1, none⟩) hbr).trans d1
        have k2 : ∀ y, (F y).cell? ⟨b, off + p * 4 + 2, none⟩ = some (.bool x.must) := fun y => ((hF1 y).cell (p := ⟨b, off + p * 4 + 2, none⟩) hbr).trans d2
        have k3 : ∀ y, (F y).cell? ⟨b, off + p * 4 + 3, none⟩ = some (.bool x.key) := fun y => ((hF1 y).cell (p := ⟨b, off + p * 4 + 3, none⟩) hbr).trans d3
        have l0 : ∀ y, (F y).cell? ⟨w.heap.size, 0, none⟩ = some (.string (bs f.nm)) := fun y => ((hF1 y).cell (p := ⟨w.heap.size, 0, none⟩) htr).trans e0
        have l1 : ∀ y, (F y).cell? ⟨w.heap.size, 1, none⟩ = some (.int .i64 f.t) := fun y => ((hF1 y).cell (p := ⟨w.heap.size, 1, none⟩) htr).trans e1
        have l2 : ∀ y, (F y).cell? ⟨w.heap.size, 2, none⟩ = some (.bool f.must) := fun y => ((hF1 y).cell (p := ⟨w.heap.size, 2, none⟩) htr).trans e2
        have l3 : ∀ y, (F y).cell? ⟨w.heap.size, 3, none⟩ = some (.bool f.key) := fun y => ((hF1 y).cell (p := ⟨w.heap.size, 3, none⟩) htr).trans e3
        have cF : ∀ y, Calls Tryd.prog 41 #[x.one, f.one] (F y) fun e w'' => e = .returned (.int .i64 r) ∧ ∃ z, w'' = F z := fun y => (cb (F y)).mono fun e w'' h => ⟨h.1, hF2 _ (on1 (hF1 y) h.2 (Nat.le_refl _))⟩
        have HX : Hid (∃ z, { wr with drawn := wr.drawn + 1 } = F z) := hF2 _ (Below.refl _ wr).drew
        have HF1 : Hid (∀ y, Below wr.heap.size wr (F y)) := hF1
        clear hF1 hF2 cb d0 d1 d2 d3 e0 e1 e2 e3
        go_wp2_with fail
        refine wp_region_after F (by kernel_rfl) (by kernel_rfl) HX.out ?_
        repeat (go_big_quiet_step (exact cF _))
        refine wpQuiet_nil ?_
        intro W2 hw2
        obtain ⟨y, rfl⟩ := hw2
        go_wp2
        go_ret2
        exact ⟨ret_v (by rw [HF.out.1, ← HF.out.2]; rfl), on1 hBw (HF1.out y) (Nat.le_refl _)⟩
      · have hfnd : fnd f.nm L = false := by
          unfold fnd; rw [← hpl, List.getElem?_eq_none (by omega)]
        have HF : Hid (fnd f.nm L = false ∧ p = lo f.nm L) := ⟨hfnd, hpl⟩
        have hpi : ¬ (p : Int) < (L.length : Int) := by omega
        have hpd : decide ((p : Int) < (L.length : Int)) = false := by simpa using hpi
        clear g0 g1 g2 g3 hB hfnd hpl h1 h2
        go_wp2_with fail
        go_quiet (fail)
        go_wp2
        go_ret2
        exact ⟨ret_v (by rw [HF.out.1, ← HF.out.2]; rfl), b_drewN hBw _⟩
set_option maxHeartbeats 4000000 in
theorem search_nil (ao : Option Addr) (c : Nat) (f : Fd) (w : World) :
    Calls Tryd.prog 43 #[.slice ao 0 c, f.one, .func (.func 41) #[] #[]] w fun e w' => e = .returned (.tuple #[.int .i64 0, .bool false]) ∧ Below w.heap.size w w' := by
  have hB0 : Below w.heap.size w (w.alloc (.cells #[.string (bs f.nm), .int .i64 f.t, .bool f.must, .bool f.key] 52)) := b_alloc (Below.refl _ _) (Nat.le_refl _) _
  obtain ⟨w0, hw0⟩ : ∃ w0, w0 = w.alloc (.cells #[.string (bs f.nm), .int .i64 f.t, .bool f.must, .bool f.key] 52) := ⟨_, rfl⟩
  rw [← hw0] at hB0
  go_enter Tryd.func43, Tryd.ntmps43
  go_wp2
  rw [← hw0]
  clear hw0
  go_loopw [9, 10] (fun i j wr => i = .int .i64 0 ∧ j = .int .i64 0 ∧ wr = w0) (fun i j _ => 0)
  case atStart => exact ⟨rfl, rfl, rfl⟩
  case round =>
    obtain ⟨rfl, rfl, rfl⟩ := hrel
    go_wp2_with fail
    go_quiet (fail)
    go_wp2
    go_ret2
    exact ⟨rfl, b_drewN hB0 _⟩
theorem search_any {v : Value} {L : List Fd} {w : World} (h : IsF w v L) (hs : Srt L) (hn : L.length ≤ 96) (f : Fd) :
    Calls Tryd.prog 43 #[v, f.one, .func (.func 41) #[] #[]] w fun e w' => e = .returned (.tuple #[.int .i64 (lo f.nm L), .bool (fnd f.nm L)]) ∧ Below w.heap.size w w' := by
  rcases h with ⟨ao, c, rfl, rfl, _⟩ | ⟨b, off, cap, rfl, hcap, hm, hb, hl⟩
  · exact search_nil ao c f w
  · exact search_some b off cap L f w hb hl hs hn
end Go.Proofs.YtgjlonilbhlneaaDoor
