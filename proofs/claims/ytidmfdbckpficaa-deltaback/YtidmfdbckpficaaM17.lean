/-
  The walks of record.Join with one property, and of record.Set.
-/
import Derived.Test.YtidmfdbckpficaaM16
import Derived.Lib.Hide
import Derived.Shelf.Spec.SlicesGrow
import Derived.Deep.RegionWith
namespace Go.Proofs.Ytidmfdbckpficaa
open Go.RowKit
set_option linter.unusedVariables false
set_option linter.unusedSimpArgs false



set_option maxHeartbeats 4000000 in
set_option maxRecDepth 100000 in
theorem merged_nil (b2 o2 : Nat) (p : Pr) (w : World) (hb2 : b2 < w.heap.size) (hp : Lies w b2 o2 [p]) :
    Calls Try.prog 85 #[.slice none 0 0, .slice (some ⟨b2, o2, none⟩) 1 1] w fun e w' => ∃ v, e = .returned v ∧ w'.ownsRow w.heap.size 38 4 v (ins p []).length (cellsOf (ins p [])) ∧ Below w.heap.size w w' := by
  obtain ⟨i0, hi0, hz0, hz1, hz2⟩ := info_parts info33
  have HP : Hid (Lies w b2 o2 [p]) := hp
  clear hp
  go_enter Try.func85, Try.ntmps85
  go_wp2
  go_loopw [0, 1, 5] (fun a bb all wr => a = .slice none 0 0 ∧ bb = .slice (some ⟨b2, o2, none⟩) 1 1 ∧ all = .slice none 0 0 ∧ wr = w) (fun _ _ _ _ => 0)
  case atStart => exact ⟨rfl, rfl, rfl, rfl⟩
  case round =>
    obtain ⟨rfl, rfl, rfl, rfl⟩ := hrel
    go_wp2_with (first
      | (at_builtin; refine wpList_append_own _ rfl (.tmp 52) (.tmp 53) 28 rfl wr.heap.size 38 i0 _ 4 48 Try.underlying28 hi0 hz0 hz1 hz2 rfl (by decide) (.slice none 0 0) 0 [] rfl (World.ownsRow_nil _ _ _ _) ⟨b2, o2, none⟩ 1 1 (cellsOf [p]) rfl rfl (lies_cells HP.out) (cellsOf_one [p]) (by decide) (by decide) (Nat.le_refl _) ?_; intro v2 w2 hown2 hgrow2 _))
    go_ret
    refine ⟨v2, rfl, ?_, (Below.refl _ _).grown hgrow2 (Nat.le_refl _) (fun k hk => by cases hk)⟩
    simpa [ins] using hown2

theorem merged_any {v : Value} {L : List Pr} {w : World} (h : IsRec w v L) (hn : L.length ≤ 8) (b2 o2 : Nat) (p : Pr) (hb2 : b2 < w.heap.size) (hp : Lies w b2 o2 [p]) :
    Calls Try.prog 85 #[v, .slice (some ⟨b2, o2, none⟩) 1 1] w fun e w' => ∃ v, e = .returned v ∧ w'.ownsRow w.heap.size 38 4 v (ins p L).length (cellsOf (ins p L)) ∧ Below w.heap.size w w' := by
  rcases h with ⟨rfl, rfl⟩ | ⟨b, off, cap, rfl, hc, hb, hl⟩
  · exact merged_nil b2 o2 p w hb2 hp
  · exact merged_some b off cap b2 o2 p L w hb hl hn hc hb2 hp

theorem cellsOf_at {M : List Pr} {k : Nat} {p : Pr} (h : M[k]? = some p) : (cellsOf M)[k * 4]? = some (.string p.nm) ∧ (cellsOf M)[k * 4 + 1]? = some (.int .i64 p.t) ∧ (cellsOf M)[k * 4 + 2]? = some (.int .i64 p.n) ∧ (cellsOf M)[k * 4 + 3]? = some (.string p.s) := by
  induction M generalizing k with
  | nil => simp at h
  | cons a r ih =>
    cases k with
    | zero => simp at h; subst h; simp [cellsOf, Pr.cells]
    | succ k =>
      have := ih (k := k) (by simpa using h)
      have e : ∀ j, (cellsOf (a :: r))[(k + 1) * 4 + j]? = (cellsOf r)[k * 4 + j]? := fun j => by
        rw [show (k + 1) * 4 + j = (k * 4 + j) + 4 by omega]; simp [cellsOf, Pr.cells]
      exact ⟨(e 0).trans this.1, (e 1).trans this.2.1, (e 2).trans this.2.2.1, (e 3).trans this.2.2.2⟩
theorem own_isRec {w : World} {base : Nat} {v : Value} {M : List Pr} (h : w.ownsRow base 38 4 v M.length (cellsOf M)) : IsRec w v M := by
  have hc : ∀ g, v.ownBlock = some g → ∀ j u, (cellsOf M)[j]? = some u → w.cell? ((⟨g, 0, none⟩ : Addr).add j) = some u := fun g hg => h.cells hg
  rcases h.2 with ⟨rfl, h0⟩ | ⟨g, cap, cur, rfl, hb, hg, hle, hcm, hcs, ht⟩
  · exact .inl ⟨rfl, List.eq_nil_of_length_eq_zero h0⟩
  · refine .inr ⟨g, 0, cap, rfl, hle, (Array.getElem?_eq_some_iff.1 hg).1, fun k p hp => ?_⟩
    obtain ⟨c0, c1, c2, c3⟩ := cellsOf_at hp
    have hc' := hc g rfl
    have d0 := hc' _ _ c0
    have d1 := hc' _ _ c1
    have d2 := hc' _ _ c2
    have d3 := hc' _ _ c3
    rw [Addr.add_lit] at d0 d1 d2 d3
    exact ⟨d0, by rw [Nat.add_assoc]; exact d1, by rw [Nat.add_assoc]; exact d2, by rw [Nat.add_assoc]; exact d3⟩

/-- The fault of a record with a property. -/
def rsErr (p : Pr) (L : List Pr) : Int := if rErr L = 0 then (if rErr [p] = 0 then (if 8 < (ins p L).length then 4 else 0) else rErr [p]) else rErr L

/-- What Join and Set give. -/
def SetPost (p : Pr) (L : List Pr) (w : World) (e : Ending) (w' : World) : Prop :=
  ∃ v, e = .returned (.tuple #[v, errV (rsErr p L)]) ∧ (rsErr p L = 0 → w'.ownsRow w.heap.size 38 4 v (ins p L).length (cellsOf (ins p L))) ∧ (¬ rsErr p L = 0 → v = .slice none 0 0) ∧ Below w.heap.size w w'

set_option maxHeartbeats 4000000 in
set_option maxRecDepth 100000 in
theorem join_any {v : Value} {L : List Pr} {w : World} (h : IsRec w v L) (hs : Sz L) (hm : L.length ≤ maxLen) (b2 o2 : Nat) (p : Pr) (hb2 : b2 < w.heap.size) (hp : Lies w b2 o2 [p]) (hsp : Sz [p]) :
    Calls Try.prog 60 #[v, .slice (some ⟨b2, o2, none⟩) 1 1] w (SetPost p L w) := by
  have c1 := rcheck_any h hs hm
  have h2 : IsRec w (.slice (some ⟨b2, o2, none⟩) 1 1) [p] := .inr ⟨b2, o2, 1, rfl, Nat.le_refl _, hb2, hp⟩
  by_cases e1 : rErr L = 0
  · rw [e1, errV_0] at c1
    by_cases e2 : rErr [p] = 0
    · have hn := rErr_len e1
      by_cases e3 : 8 < (ins p L).length
      · have es : rsErr p L = 4 := by unfold rsErr; rw [if_pos e1, if_pos e2, if_pos e3]
        have HE : Hid (rsErr p L = 4) := es
        have H2 : Hid (IsRec w v L ∧ L.length ≤ 8 ∧ Lies w b2 o2 [p] ∧ IsRec w (.slice (some ⟨b2, o2, none⟩) 1 1) [p] ∧ Sz [p] ∧ rErr [p] = 0) := ⟨h, hn, hp, h2, hsp, e2⟩
        have hM9 : (ins p L).length ≤ 9 := by have := ins_len p L; omega
        have hcast : (8 : Int) < ((ins p L).length : Int) := by omega
        clear es e1 h2 h hp hs hm hsp e2 hn
        go_enter Try.func60, Try.ntmps60
        go_wp2_with (go_at_call 49; refine c1.mono ?_; rintro e W1 ⟨rfl, hB1⟩; refine Hid.out ?_)
        refine Lib.hid ?_
        have c2 := rcheck_any (H2.out.2.2.2.1.on hB1) H2.out.2.2.2.2.1 (by simp [maxLen])
        rw [H2.out.2.2.2.2.2, errV_0] at c2
        go_wp2_with (go_at_call 49; refine c2.mono ?_; rintro e W2 ⟨rfl, hB2⟩; refine Hid.out ?_)
        refine Lib.hid ?_
        have hB := on1 hB1 hB2
        have c3 := merged_any (H2.out.1.on hB) H2.out.2.1 b2 o2 p (Nat.lt_of_lt_of_le hb2 hB.size) (H2.out.2.2.1.on hb2 hB)
        clear c1 c2
        go_wp2_with (go_at_call 85; refine c3.mono ?_; rintro e W3 ⟨v3, rfl, hO, hB3⟩; obtain ⟨ao, cp, rfl⟩ := own_slice hO)
        go_ret2
        exact ⟨.slice none 0 0, ret_v (by rw [HE.out]; rfl), fun h => absurd h (by rw [HE.out]; decide), fun _ => rfl, on1 hB hB3⟩
      · have es : rsErr p L = 0 := by unfold rsErr; rw [if_pos e1, if_pos e2, if_neg e3]
        have HE : Hid (rsErr p L = 0) := es
        have H2 : Hid (IsRec w v L ∧ L.length ≤ 8 ∧ Lies w b2 o2 [p] ∧ IsRec w (.slice (some ⟨b2, o2, none⟩) 1 1) [p] ∧ Sz [p] ∧ rErr [p] = 0) := ⟨h, hn, hp, h2, hsp, e2⟩
        have hcast : ((ins p L).length : Int) ≤ 8 := by omega
        clear es e1 h2 h hp hs hm hsp e2 hn e3
        go_enter Try.func60, Try.ntmps60
        go_wp2_with (go_at_call 49; refine c1.mono ?_; rintro e W1 ⟨rfl, hB1⟩; refine Hid.out ?_)
        refine Lib.hid ?_
        have c2 := rcheck_any (H2.out.2.2.2.1.on hB1) H2.out.2.2.2.2.1 (by simp [maxLen])
        rw [H2.out.2.2.2.2.2, errV_0] at c2
        go_wp2_with (go_at_call 49; refine c2.mono ?_; rintro e W2 ⟨rfl, hB2⟩; refine Hid.out ?_)
        refine Lib.hid ?_
        have hB := on1 hB1 hB2
        have c3 := merged_any (H2.out.1.on hB) H2.out.2.1 b2 o2 p (Nat.lt_of_lt_of_le hb2 hB.size) (H2.out.2.2.1.on hb2 hB)
        clear c1 c2
        go_wp2_with (go_at_call 85; refine c3.mono ?_; rintro e W3 ⟨v3, rfl, hO, hB3⟩; obtain ⟨ao, cp, rfl⟩ := own_slice hO)
        go_ret2
        exact ⟨_, ret_v (by rw [HE.out]; rfl), fun _ => own_base hO hB.size, fun h => absurd HE.out h, on1 hB hB3⟩
    · have es : rsErr p L = rErr [p] := by unfold rsErr; rw [if_pos e1, if_neg e2]
      have HE : Hid (rsErr p L = rErr [p] ∧ ¬ rErr [p] = 0) := ⟨es, e2⟩
      have H2 : Hid (IsRec w (.slice (some ⟨b2, o2, none⟩) 1 1) [p] ∧ Sz [p]) := ⟨h2, hsp⟩
      clear es e1 h2 h hp hs hm hsp e2
      go_enter Try.func60, Try.ntmps60
      go_wp2_with (go_at_call 49; refine c1.mono ?_; rintro e W1 ⟨rfl, hB1⟩; refine Hid.out ?_)
      refine Lib.hid ?_
      have c2 := rcheck_any (H2.out.1.on hB1) H2.out.2 (by simp [maxLen])
      rw [errV_ne HE.out.2] at c2
      clear c1
      go_wp2_with (go_at_call 49; refine c2.mono ?_; rintro e W2 ⟨rfl, hB2⟩)
      go_ret2
      exact ⟨.slice none 0 0, ret_v (by rw [HE.out.1, errV_ne HE.out.2]; rfl), fun h => absurd h (by rw [HE.out.1]; exact HE.out.2), fun _ => rfl, on1 hB1 hB2⟩
  · have es : rsErr p L = rErr L := by unfold rsErr; rw [if_neg e1]
    have HE : Hid (rsErr p L = rErr L ∧ ¬ rErr L = 0) := ⟨es, e1⟩
    rw [errV_ne e1] at c1
    have H : Hid (∀ w, IsRec w v L → True) := fun _ _ => trivial
    clear es e1 h2 h hp hs hm
    go_enter Try.func60, Try.ntmps60
    go_wp2_with (first | (go_at_call 49; refine c1.mono ?_; rintro e W1 ⟨rfl, hB1⟩))
    go_ret2
    exact ⟨.slice none 0 0, ret_v (by rw [HE.out.1, errV_ne HE.out.2]; rfl), fun h => absurd h (by rw [HE.out.1]; exact HE.out.2), fun _ => rfl, hB1⟩



theorem lies_new (w0 : World) (p : Pr) : Lies (w0.alloc (.cells #[.string p.nm, .int .i64 p.t, .int .i64 p.n, .string p.s] 38)) w0.heap.size 0 [p] := by
  intro k q hq
  match k, hq with
  | 0, hq => simp at hq; subst hq; simp
  | k + 1, hq => simp at hq

set_option maxHeartbeats 4000000 in
set_option maxRecDepth 100000 in
theorem set_any {v : Value} {L : List Pr} {w : World} (h : IsRec w v L) (hs : Sz L) (hm : L.length ≤ maxLen) (p : Pr) (hsp : Sz [p]) :
    Calls Try.prog 42 #[v, p.one] w (SetPost p L w) := by
  have hB0 : Below w.heap.size w ((w.alloc (.cells #[.string p.nm, .int .i64 p.t, .int .i64 p.n, .string p.s] 38)).alloc (.cells #[.string p.nm, .int .i64 p.t, .int .i64 p.n, .string p.s] 38)) := b_alloc (b_alloc (Below.refl _ _) _) _
  have c := join_any (h.on hB0) hs hm (w.alloc (.cells #[.string p.nm, .int .i64 p.t, .int .i64 p.n, .string p.s] 38)).heap.size 0 p (by simp) (lies_new _ p) hsp
  have H : Hid (IsRec w v L) := h
  clear h hs hm hsp
  go_enter Try.func42, Try.ntmps42
  rw [show (w.alloc (.cells #[.string p.nm, .int .i64 p.t, .int .i64 p.n, .string p.s] 38)).heap.size = w.heap.size + 1 from by simp] at c
  go_wp2_with (go_at_call 60; refine c.mono ?_; rintro e W1 ⟨v1, rfl, h1, h2, hB1⟩)
  go_ret2
  exact ⟨v1, rfl, fun e => own_base (h1 e) (by simp; omega), h2, hB0.trans (hB1.mono (by simp; omega))⟩

end Go.Proofs.Ytidmfdbckpficaa

/-
  The walks of slices.Grow and slices.Concat with two parts.
-/
namespace Go.Proofs.Ytidmfdbckpficaa
open Go.RowKit Go.Shelf
set_option linter.unusedVariables false
set_option linter.unusedSimpArgs false

def growRen : Go.Shelf.Ren := ⟨fun | 4 => 88 | n => n, fun | 22 => 28 | 25 => 38 | n => n, fun | n => n⟩
theorem growLays : Go.Proofs.Lays8.n4 Try.prog growRen := {
  mixed := by kernel_rfl
  f4 := ⟨ "slices.Grow[kinshape/api.Record,kinshape/api.Prop]", by decide, Try.func88.trans (congrArg some (by kernel_rfl))⟩
  t0 := Try.underlying0
  a0 := Try.isAgg0
  z0 := Try.sizeOf0
  v0 := Try.zeroValue0
  t3 := Try.underlying3
  a3 := Try.isAgg3
  z3 := Try.sizeOf3
  v3 := Try.zeroValue3
  t4 := Try.underlying4
  a4 := Try.isAgg4
  z4 := Try.sizeOf4
  v4 := Try.zeroValue4
  t9 := Try.underlying9
  a9 := Try.isAgg9
  z9 := Try.sizeOf9
  v9 := Try.zeroValue9
  t20 := Try.underlying20
  a20 := Try.isAgg20
  z20 := Try.sizeOf20
  v20 := Try.zeroValue20
  t22 := Try.underlying28
  a22 := Try.isAgg28
  z22 := Try.sizeOf28
  v22 := Try.zeroValue28 }

set_option maxHeartbeats 1000000 in
theorem grow_zero (w : World) :
    Calls Try.prog 88 #[.slice none 0 0, .int .i64 0] w fun e w' => e = .returned (.slice none 0 0) ∧ w' = w := by
  go_enter Try.func88, Try.ntmps88
  go_wp2
  go_ret
  exact ⟨rfl, rfl⟩
theorem grow_any (n : Nat) (hn : n ≤ 16) (w : World) :
    Calls Try.prog 88 #[.slice none 0 0, .int .i64 n] w fun e w' => ∃ v, e = .returned v ∧ w'.ownsRow w.heap.size 38 4 v 0 [] ∧ Below w.heap.size w w' := by
  obtain ⟨i0, hi0, hz0, hz1, hz2⟩ := info_parts info33
  by_cases h0 : n = 0
  · subst h0
    refine (grow_zero w).mono ?_
    rintro e w' ⟨rfl, rfl⟩
    exact ⟨_, rfl, World.ownsRow_nil _ _ _ _, Below.refl _ _⟩
  · refine (Any8.slices_Grow_grow growLays i0 _ hi0 hz0 (by omega) none 0 0 n [] w (Nat.le_refl _) (by omega) (by rw [hz2]; omega) (by omega) (by simp) (fun _ => rfl) (fun a ha => by cases ha)).mono ?_
    rintro e w' ⟨rfl, rfl⟩
    have hge := grownCap_ge w (0 + n) 0 38
    have hcm := grownCap_le_maxLen w (0 + n) 0 38 (by unfold maxLen; omega)
    refine ⟨_, rfl, World.ownsRow_made (w := w.drew) _ _ (Nat.le_refl _) hcm ?_, b_alloc (Below.refl _ _).drew _⟩
    simp only [Array.size_append, List.size_toArray, List.length_nil, size_zeroCells]
    show 0 + (0 + n - 0) * 4 + (grownCap w (0 + n) 0 38 - (0 + n)) * 4 = grownCap w (0 + n) 0 38 * 4
    omega

/-- The size so far. -/
def szAt (a b k : Nat) : Nat := if k = 0 then 0 else if k = 1 then a else a + b
/-- The parts so far. -/
def partAt (X Y : List Pr) (k : Nat) : List Pr := if k = 0 then [] else if k = 1 then X else X ++ Y
/-- The cells of a list lie at an address. -/
def At (w : World) (a : Addr) (L : List Pr) : Prop := ∀ j u, (cellsOf L)[j]? = some u → w.cell? (a.add j) = some u

/-- Between two rounds of the first loop. -/
def C1 (w : World) (a b : Nat) (s i : Value) (wr : World) : Prop := ∃ k : Nat, k ≤ 2 ∧ i = .int .i64 k ∧ s = .int .i64 (szAt a b k) ∧ wr = w
/-- Between two rounds of the second loop. -/
def C2 (w : World) (X Y : List Pr) (v i : Value) (wr : World) : Prop := ∃ k : Nat, k ≤ 2 ∧ i = .int .i64 k ∧ wr.ownsRow w.heap.size 38 4 v (partAt X Y k).length (cellsOf (partAt X Y k)) ∧ Below w.heap.size w wr

set_option maxHeartbeats 4000000 in
set_option maxRecDepth 100000 in
theorem concat_two (bs : Nat) (a1 a2 : Addr) (ca cb : Nat) (X Y : List Pr) (w : World) (hX : X.length ≤ 8) (hY : Y.length ≤ 8) (hbs : bs < w.heap.size) (h1 : a1.block < w.heap.size) (h2 : a2.block < w.heap.size)
    (c0 : w.cell? ⟨bs, 0, none⟩ = some (.slice (some a1) X.length ca)) (c1 : w.cell? ⟨bs, 1, none⟩ = some (.slice (some a2) Y.length cb)) (hA : At w a1 X) (hC : At w a2 Y) :
    Calls Try.prog 62 #[.slice (some ⟨bs, 0, none⟩) 2 2] w fun e w' => ∃ v, e = .returned v ∧ w'.ownsRow w.heap.size 38 4 v (X ++ Y).length (cellsOf (X ++ Y)) ∧ Below w.heap.size w w' := by
  obtain ⟨i0, hi0, hz0, hz1, hz2⟩ := info_parts info33
  have HA : Hid (At w a1 X ∧ At w a2 Y) := ⟨hA, hC⟩
  clear hA hC
  go_enter Try.func62, Try.ntmps62
  go_wp2
  go_loopw [3, 11] (fun s i wr => C1 w X.length Y.length s i wr) (fun _ i _ => 2 - (intOf i).toNat)
  case atStart => exact ⟨0, Nat.zero_le _, rfl, rfl, rfl⟩
  case round =>
    obtain ⟨k, hk, rfl, rfl, hw⟩ := hrel
    have hw' := hw.symm
    subst hw'
    obtain rfl | rfl | rfl : k = 0 ∨ k = 1 ∨ k = 2 := by omega
    · have R : C1 w X.length Y.length (.int .i64 (X.length : Int)) (.int .i64 1) w := ⟨1, by omega, rfl, by simp [szAt], rfl⟩
      have R' : Hid (C1 w X.length Y.length (.int .i64 (X.length : Int)) (.int .i64 1) w) := R
      clear R
      have hs0 : ((szAt X.length Y.length 0 : Nat) : Int) = 0 := rfl
      rw [hs0]
      go_wp2
      refine ⟨?_, ?_⟩
      · first
          | exact R'.out
          | ((repeat apply Exists.intro)
             refine ⟨?_, rfl⟩
             exact R'.out)
      · simp [intOf]
    · have R' : Hid (C1 w X.length Y.length (.int .i64 ((X.length : Int) + (Y.length : Int))) (.int .i64 2) w) := ⟨2, by omega, rfl, by simp [szAt], rfl⟩
      have hs1 : ((szAt X.length Y.length 1 : Nat) : Int) = (X.length : Int) := rfl
      rw [hs1]
      go_wp2
      refine ⟨?_, ?_⟩
      · first
          | exact R'.out
          | ((repeat apply Exists.intro)
             refine ⟨?_, rfl⟩
             exact R'.out)
      · simp [intOf]
    · have hcg := grow_any (X.length + Y.length) (by omega) w
      have hs2 : ((szAt X.length Y.length 2 : Nat) : Int) = ((X.length + Y.length : Nat) : Int) := rfl
      rw [hs2]
      go_wp2_with (go_at_call 88; refine hcg.mono ?_; rintro e W1 ⟨v1, rfl, hown, hB1⟩)
      go_loopw [6, 27] (fun v i wr2 => C2 w X Y v i wr2) (fun _ i _ => 2 - (intOf i).toNat)
      case atStart => exact ⟨0, Nat.zero_le _, rfl, hown, hB1⟩
      case round =>
        obtain ⟨k, hk, rfl, hown, hB⟩ := hrel
        have e0 := (hB.cell (p := ⟨bs, 0, none⟩) hbs).trans c0
        have e1 := (hB.cell (p := ⟨bs, 1, none⟩) hbs).trans c1
        have hbase := hB.size
        obtain rfl | rfl | rfl : k = 0 ∨ k = 1 ∨ k = 2 := by omega
        · have HO : Hid (wr.ownsRow w.heap.size 38 4 u6 0 []) := hown
          have HM : Hid (0 + X.length ≤ maxLen ∧ (0 + X.length) * 48 ≤ 140737488355328) := by unfold maxLen; exact ⟨by omega, by omega⟩
          have HN : Hid (At wr a1 X) := fun j u hu => (hB.cell (by rw [show (a1.add j).block = a1.block by unfold Addr.add; split <;> rfl]; exact h1)).trans (HA.out.1 j u hu)
          clear hown
          go_wp2_with (at_builtin; refine wpList_append_own _ rfl (.tmp 31) (.tmp 32) 28 rfl w.heap.size 38 i0 _ 4 48 Try.underlying28 hi0 hz0 hz1 hz2 rfl (by decide) u6 0 [] rfl HO.out a1 X.length ca (cellsOf X) rfl (cellsOf_len X) HN.out (cellsOf_one X) HM.out.1 HM.out.2 hbase ?_; intro v2 w2 hown2 hgrow2 _; refine Hid.out ?_)
          refine Lib.hid ?_
          have R' : Hid (C2 w X Y v2 (.int .i64 1) w2) := ⟨1, by omega, rfl, by simpa [partAt] using hown2, hB.grown hgrow2 hB.size (fun k hk => (HO.out.lt k hk).1)⟩
          clear hown2
          go_wp2
          refine ⟨?_, ?_⟩
          · first
              | exact R'.out
              | ((repeat apply Exists.intro)
                 refine ⟨?_, rfl⟩
                 exact R'.out)
          · simp [intOf]
        · have HO : Hid (wr.ownsRow w.heap.size 38 4 u6 X.length (cellsOf X)) := hown
          have HM : Hid (X.length + Y.length ≤ maxLen ∧ (X.length + Y.length) * 48 ≤ 140737488355328) := by unfold maxLen; exact ⟨by omega, by omega⟩
          have HN : Hid (At wr a2 Y) := fun j u hu => (hB.cell (by rw [show (a2.add j).block = a2.block by unfold Addr.add; split <;> rfl]; exact h2)).trans (HA.out.2 j u hu)
          clear hown
          go_wp2_with (at_builtin; refine wpList_append_own _ rfl (.tmp 31) (.tmp 32) 28 rfl w.heap.size 38 i0 _ 4 48 Try.underlying28 hi0 hz0 hz1 hz2 rfl (by decide) u6 X.length (cellsOf X) rfl HO.out a2 Y.length cb (cellsOf Y) rfl (cellsOf_len Y) HN.out (cellsOf_one Y) HM.out.1 HM.out.2 hbase ?_; intro v2 w2 hown2 hgrow2 _; refine Hid.out ?_)
          refine Lib.hid ?_
          have R' : Hid (C2 w X Y v2 (.int .i64 2) w2) := ⟨2, by omega, rfl, by simpa [partAt, cellsOf_app] using hown2, hB.grown hgrow2 hB.size (fun k hk => (HO.out.lt k hk).1)⟩
          clear hown2
          go_wp2
          refine ⟨?_, ?_⟩
          · first
              | exact R'.out
              | ((repeat apply Exists.intro)
                 refine ⟨?_, rfl⟩
                 exact R'.out)
          · simp [intOf]
        · have HO : Hid (wr.ownsRow w.heap.size 38 4 u6 (X ++ Y).length (cellsOf (X ++ Y))) := hown
          clear hown
          go_wp2
          go_ret
          exact ⟨_, rfl, HO.out, hB⟩
end Go.Proofs.Ytidmfdbckpficaa

/-
  The walk of record.Unset.
-/
namespace Go.Proofs.Ytidmfdbckpficaa
open Go.RowKit
set_option linter.unusedVariables false
set_option linter.unusedSimpArgs false

theorem take_lies {w : World} {b off : Nat} {L : List Pr} (h : Lies w b off L) (i : Nat) : Lies w b off (L.take i) := fun k p hp => by
  refine h k p ?_
  rw [List.getElem?_take] at hp
  split at hp
  · exact hp
  · cases hp

/-- The call of slices.Concat. -/
theorem cat_call {w W1 : World} {b off cap j o2 c2 : Nat} {L : List Pr} (hL : Lies w b off L) (hb : b < w.heap.size) (hB : Below w.heap.size w W1) (ho : L.length = j + 1 ∨ o2 = off + (j + 1) * 4) (e1 : Hid ((L.take j).length = j ∧ (L.drop (j + 1)).length = L.length - (j + 1))) (hn : L.length ≤ 8) :
    Calls Try.prog 62 #[.slice (some ⟨W1.heap.size, 0, none⟩) 2 2] ((W1.alloc (.cells #[.slice (some ⟨b, off, none⟩) j cap, .slice (some ⟨b, o2, none⟩) (L.length - (j + 1)) c2] 28)).drew) fun e w' => ∃ v, e = .returned v ∧
      w'.ownsRow (W1.heap.size + 1) 38 4 v (L.take j ++ L.drop (j + 1)).length (cellsOf (L.take j ++ L.drop (j + 1))) ∧ Below (W1.heap.size + 1) ((W1.alloc (.cells #[.slice (some ⟨b, off, none⟩) j cap, .slice (some ⟨b, o2, none⟩) (L.length - (j + 1)) c2] 28)).drew) w' := by
  obtain ⟨h1, h2⟩ := e1.out
  have hbW : b < W1.heap.size := Nat.lt_of_lt_of_le hb hB.size
  have hBd := (b_alloc hB (.cells #[.slice (some ⟨b, off, none⟩) j cap, .slice (some ⟨b, o2, none⟩) (L.length - (j + 1)) c2] 28)).drew
  have := concat_two W1.heap.size ⟨b, off, none⟩ ⟨b, o2, none⟩ cap c2 (L.take j) (L.drop (j + 1)) ((W1.alloc (.cells #[.slice (some ⟨b, off, none⟩) j cap, .slice (some ⟨b, o2, none⟩) (L.length - (j + 1)) c2] 28)).drew)
    (by rw [List.length_take]; omega) (by omega) (by simp) (by simp; omega) (by simp; omega) (by rw [h1]; simp) (by rw [h2]; simp)
    (lies_cells ((take_lies hL j).on hb hBd))
    (by
      rcases ho with ho | rfl
      · intro i u hu
        rw [List.drop_eq_nil_of_le (by omega)] at hu
        simp [cellsOf] at hu
      · exact lies_cells ((hL.drop (j + 1)).on hb hBd))
  simpa using this
theorem un_below {w W1 W2 : World} {o : Obj} (hB1 : Below w.heap.size w W1) (hB2 : Below (W1.heap.size + 1) (W1.alloc o).drew W2) : Below w.heap.size w W2 :=
  ((b_alloc hB1 o).drew).trans (hB2.mono (by have := hB1.size; omega))

end Go.Proofs.Ytidmfdbckpficaa

/-
  The walk of record.Unset.
-/
namespace Go.Proofs.Ytidmfdbckpficaa
open Go.RowKit
set_option linter.unusedVariables false
set_option linter.unusedSimpArgs false
set_option maxHeartbeats 8000000 in
set_option maxRecDepth 100000 in
theorem unset_some (b off cap : Nat) (L : List Pr) (s : ByteArray) (w : World) (hb : b < w.heap.size) (hL : Lies w b off L) (hs : Sz L) (hcap : L.length ≤ cap) (he : rfErr s.toList L = 0) (j : Nat) (hj : idxP s.toList L 0 = (j : Int)) (hjl : j < L.length) (hn : L.length ≤ 8) :
    Calls Try.prog 44 #[.slice (some ⟨b, off, none⟩) L.length cap, .string s] w fun e w' => ∃ v, e = .returned (.tuple #[v, .nilIface]) ∧ w'.ownsRow w.heap.size 38 4 v (L.take j ++ L.drop (j + 1)).length (cellsOf (L.take j ++ L.drop (j + 1))) ∧ Below w.heap.size w w' := by
  have c1 := rfind_any (v := .slice (some ⟨b, off, none⟩) L.length cap) (w := w) ⟨_, cap, rfl, .inr ⟨b, off, rfl, hb, hL⟩⟩ hs (by unfold maxLen; omega) s
  have hA : rfAt s.toList L = (j : Int) := by unfold rfAt; rw [if_pos he, hj]
  rw [he, errV_0, hA] at c1
  have HK : Hid (Lies w b off L) := hL
  have h1 : (j : Int) ≤ (L.length : Int) := by omega
  have h1c : (j : Int) ≤ (cap : Int) := by omega
  have h2 : (j : Int) + 1 ≤ (L.length : Int) := by omega
  have hw : IntKind.i64.wrap ((j : Int) + 1) = (j : Int) + 1 := by rw [IntKind.wrap_i64]; omega
  have ht : ((j : Int) + 1).toNat = j + 1 := by omega
  have e1 : Hid ((L.take j).length = j ∧ (L.drop (j + 1)).length = L.length - (j + 1)) := ⟨by simp; omega, by simp⟩
  clear hL hs he hj hA
  by_cases hc : cap = j + 1
  · have hl : Hid (L.length = j + 1) := by show _ = _; omega
    subst hc
    go_enter Try.func44, Try.ntmps44
    go_wp2_with (go_at_call 61; refine c1.mono ?_; rintro e W1 ⟨rfl, hB1⟩; refine Hid.out ?_)
    refine Lib.hid ?_
    have hbW : b < W1.heap.size := Nat.lt_of_lt_of_le hb hB1.size
    have cc := cat_call (cap := j + 1) (o2 := off) (c2 := 0) HK.out hb hB1 (Or.inl hl.out) e1 hn
    rw [show L.length - (j + 1) = 0 by have := hl.out; omega] at cc
    go_wp2_with fail
    go_region_with (go_at_call 62; refine cc.mono ?_; rintro e W2 ⟨v2, rfl, hown2, hB2⟩)
    all_goals
      go_wp2
      go_ret2
      exact ⟨v2, rfl, own_base hown2 (Nat.le_trans hB1.size (Nat.le_succ _)), un_below hB1 hB2⟩
  · go_enter Try.func44, Try.ntmps44
    go_wp2_with (go_at_call 61; refine c1.mono ?_; rintro e W1 ⟨rfl, hB1⟩; refine Hid.out ?_)
    refine Lib.hid ?_
    have hbW : b < W1.heap.size := Nat.lt_of_lt_of_le hb hB1.size
    have cc := cat_call (cap := cap) (c2 := cap - (j + 1)) (o2 := off + (j + 1) * 4) HK.out hb hB1 (Or.inr rfl) e1 hn
    go_wp2_with fail
    go_region_with (go_at_call 62; refine cc.mono ?_; rintro e W2 ⟨v2, rfl, hown2, hB2⟩)
    all_goals
      go_wp2
      go_ret2
      exact ⟨v2, rfl, own_base hown2 (Nat.le_trans hB1.size (Nat.le_succ _)), un_below hB1 hB2⟩
/-- What Unset says. -/
def unL (nm : List UInt8) (L : List Pr) : List Pr := L.take (idxP nm L 0).toNat ++ L.drop ((idxP nm L 0).toNat + 1)
theorem unset_ok {w : World} {base : Nat} {v : Value} {L : List Pr} (h : w.ownsRow base 38 4 v L.length (cellsOf L)) (hs : Sz L) (s : ByteArray) (hr : rErr L = 0) (hx : ¬ idxP s.toList L 0 = -1) :
    Calls Try.prog 44 #[v, .string s] w fun e w' => ∃ v', e = .returned (.tuple #[v', .nilIface]) ∧ w'.ownsRow w.heap.size 38 4 v' (unL s.toList L).length (cellsOf (unL s.toList L)) ∧ Below w.heap.size w w' := by
  have hn := rErr_len hr
  have he : rfErr s.toList L = 0 := by unfold rfErr; rw [if_pos hr, if_neg hx]
  rcases idxP_spec s.toList L 0 with h1 | ⟨j, q, hj, hq, _⟩
  · exact absurd h1 hx
  · have hjl := (List.getElem?_eq_some_iff.1 hq).1
    rw [Nat.zero_add] at hj
    have e : unL s.toList L = L.take j ++ L.drop (j + 1) := by unfold unL; rw [hj]; rfl
    rw [e]
    rcases own_isRec h with ⟨_, rfl⟩ | ⟨b, off, cap, rfl, hc, hb, hl⟩
    · simp at hjl
    · exact unset_some b off cap L s w hb hl hs hc he j hj hjl hn
set_option maxHeartbeats 1000000 in
theorem unset_no {v : Value} {L : List Pr} {w : World} (h : IsR w v L) (hs : Sz L) (s : ByteArray) (hr : rErr L = 0) (hx : idxP s.toList L 0 = -1) :
    Calls Try.prog 44 #[v, .string s] w fun e w' => e = .returned (.tuple #[.slice none 0 0, .iface 60 (.int .i64 5)]) ∧ Below w.heap.size w w' := by
  have he : rfErr s.toList L = 5 := by unfold rfErr; rw [if_pos hr, if_pos hx]
  have c1 := rfind_any h hs (by have := rErr_len hr; unfold maxLen; omega) s
  rw [he, show errV 5 = .iface 60 (.int .i64 5) from rfl] at c1
  obtain ⟨ao, c, rfl, _⟩ := h
  clear he hx hr hs
  generalize rfAt s.toList L = x at *
  go_enter Try.func44, Try.ntmps44
  go_wp2_with (first | (go_at_call 61; refine c1.mono ?_; rintro e W1 ⟨rfl, hB1⟩))
  go_ret2
  exact ⟨rfl, hB1⟩
end Go.Proofs.Ytidmfdbckpficaa
