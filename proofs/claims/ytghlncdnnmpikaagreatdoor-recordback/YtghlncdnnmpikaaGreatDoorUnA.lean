/-
  The walks of slices.Grow and slices.Concat with two parts.
-/
import Derived.Test.YtghlncdnnmpikaaGreatDoorSameA
import Derived.Shelf.Spec.SlicesGrow
namespace Go.Proofs.YtghlncdnnmpikaaGreatDoor
open Go.RowKit Go.Shelf
set_option linter.unusedVariables false
set_option linter.unusedSimpArgs false

def growRen : Go.Shelf.Ren := ⟨fun | 4 => 43 | n => n, fun | 22 => 23 | 25 => 27 | n => n, fun | n => n⟩
theorem growLays : Go.Proofs.Lays8.n4 Tryz.prog growRen := {
  mixed := by kernel_rfl
  f4 := ⟨ "slices.Grow[kinshape/api.Record,kinshape/api.Prop]", by decide, Tryz.func43.trans (congrArg some (by kernel_rfl))⟩
  t0 := Tryz.underlying0
  a0 := Tryz.isAgg0
  z0 := Tryz.sizeOf0
  v0 := Tryz.zeroValue0
  t3 := Tryz.underlying3
  a3 := Tryz.isAgg3
  z3 := Tryz.sizeOf3
  v3 := Tryz.zeroValue3
  t4 := Tryz.underlying4
  a4 := Tryz.isAgg4
  z4 := Tryz.sizeOf4
  v4 := Tryz.zeroValue4
  t9 := Tryz.underlying9
  a9 := Tryz.isAgg9
  z9 := Tryz.sizeOf9
  v9 := Tryz.zeroValue9
  t20 := Tryz.underlying20
  a20 := Tryz.isAgg20
  z20 := Tryz.sizeOf20
  v20 := Tryz.zeroValue20
  t22 := Tryz.underlying23
  a22 := Tryz.isAgg23
  z22 := Tryz.sizeOf23
  v22 := Tryz.zeroValue23 }

set_option maxHeartbeats 1000000 in
theorem grow_zero (w : World) :
    Calls Tryz.prog 43 #[.slice none 0 0, .int .i64 0] w fun e w' => e = .returned (.slice none 0 0) ∧ w' = w := by
  go_enter Tryz.func43, Tryz.ntmps43
  go_wp2
  go_ret
  exact ⟨rfl, rfl⟩
theorem grow_any (n : Nat) (hn : n ≤ 16) (w : World) :
    Calls Tryz.prog 43 #[.slice none 0 0, .int .i64 n] w fun e w' => ∃ v, e = .returned v ∧ w'.ownsRow w.heap.size 27 4 v 0 [] ∧ Below w.heap.size w w' := by
  obtain ⟨i0, hi0, hz0, hz1, hz2⟩ := info_parts info33
  by_cases h0 : n = 0
  · subst h0
    refine (grow_zero w).mono ?_
    rintro e w' ⟨rfl, rfl⟩
    exact ⟨_, rfl, World.ownsRow_nil _ _ _ _, Below.refl _ _⟩
  · refine (Any8.slices_Grow_grow growLays i0 _ hi0 hz0 (by omega) none 0 0 n [] w (Nat.le_refl _) (by omega) (by rw [hz2]; omega) (by omega) (by simp) (fun _ => rfl) (fun a ha => by cases ha)).mono ?_
    rintro e w' ⟨rfl, rfl⟩
    have hge := grownCap_ge w (0 + n) 0 27
    have hcm := grownCap_le_maxLen w (0 + n) 0 27 (by unfold maxLen; omega)
    refine ⟨_, rfl, World.ownsRow_made (w := w.drew) _ _ (Nat.le_refl _) hcm ?_, b_alloc (Below.refl _ _).drew _⟩
    simp only [Array.size_append, List.size_toArray, List.length_nil, size_zeroCells]
    show 0 + (0 + n - 0) * 4 + (grownCap w (0 + n) 0 27 - (0 + n)) * 4 = grownCap w (0 + n) 0 27 * 4
    omega

/-- The size so far. -/
def szAt (a b k : Nat) : Nat := if k = 0 then 0 else if k = 1 then a else a + b
/-- The parts so far. -/
def partAt (X Y : List Pr) (k : Nat) : List Pr := if k = 0 then [] else if k = 1 then X else X ++ Y
/-- The cells of a list lie at an address. -/
def At (w : World) (a : Addr) (L : List Pr) : Prop := ∀ j u, (cellsOf L)[j]? = some u → w.cell? (a.add j) = some u

/-- Between two rounds of the first loop. -/
def C1 (w : World) (a b : Nat) (s i : Value) (wr : World) : Prop := ∃ k : Nat, k ≤ 2 ∧ i = .int .i64 k ∧ s = .int .i64 (szAt a b k) ∧ wr = w
/-- Between two rounds of the second loop. -/
def C2 (w : World) (X Y : List Pr) (v i : Value) (wr : World) : Prop := ∃ k : Nat, k ≤ 2 ∧ i = .int .i64 k ∧ wr.ownsRow w.heap.size 27 4 v (partAt X Y k).length (cellsOf (partAt X Y k)) ∧ Below w.heap.size w wr

set_option maxHeartbeats 4000000 in
set_option maxRecDepth 100000 in
theorem concat_two (bs : Nat) (a1 a2 : Addr) (ca cb : Nat) (X Y : List Pr) (w : World) (hX : X.length ≤ 8) (hY : Y.length ≤ 8) (hbs : bs < w.heap.size) (h1 : a1.block < w.heap.size) (h2 : a2.block < w.heap.size)
    (c0 : w.cell? ⟨bs, 0, none⟩ = some (.slice (some a1) X.length ca)) (c1 : w.cell? ⟨bs, 1, none⟩ = some (.slice (some a2) Y.length cb)) (hA : At w a1 X) (hC : At w a2 Y) :
    Calls Tryz.prog 25 #[.slice (some ⟨bs, 0, none⟩) 2 2] w fun e w' => ∃ v, e = .returned v ∧ w'.ownsRow w.heap.size 27 4 v (X ++ Y).length (cellsOf (X ++ Y)) ∧ Below w.heap.size w w' := by
  obtain ⟨i0, hi0, hz0, hz1, hz2⟩ := info_parts info33
  have HA : Hid (At w a1 X ∧ At w a2 Y) := ⟨hA, hC⟩
  clear hA hC
  go_enter Tryz.func25, Tryz.ntmps25
  go_wp2
  go_loopw [3, 11] (fun s i wr => C1 w X.length Y.length s i wr) (fun _ i _ => 2 - (intOf i).toNat)
  case atStart => exact ⟨0, Nat.zero_le _, rfl, rfl, rfl⟩
  case round =>
    obtain ⟨k, hk, rfl, rfl, hw⟩ := hrel
    have hw' := hw.symm
    subst hw'
    obtain rfl | rfl | rfl : k = 0 ∨ k = 1 ∨ k = 2 := by omega
    · have R : C1 w X.length Y.length (.int .i64 (X.length : Int)) (.int .i64 1) w := ⟨1, by omega, rfl, by simp [szAt], rfl⟩
      have R' : Hid (C1 w X.length Y.length (.int .i64 (X.length : Int)) (.int .i64 1) w) := R
      clear R
      have hs0 : ((szAt X.length Y.length 0 : Nat) : Int) = 0 := rfl
      rw [hs0]
      go_wp2
      refine ⟨?_, ?_⟩
      · first
          | exact R'.out
          | ((repeat apply Exists.intro)
             refine ⟨?_, rfl⟩
             exact R'.out)
      · simp [intOf]
    · have R' : Hid (C1 w X.length Y.length (.int .i64 ((X.length : Int) + (Y.length : Int))) (.int .i64 2) w) := ⟨2, by omega, rfl, by simp [szAt], rfl⟩
      have hs1 : ((szAt X.length Y.length 1 : Nat) : Int) = (X.length : Int) := rfl
      rw [hs1]
      go_wp2
      refine ⟨?_, ?_⟩
      · first
          | exact R'.out
          | ((repeat apply Exists.intro)
             refine ⟨?_, rfl⟩
             exact R'.out)
      · simp [intOf]
    · have hcg := grow_any (X.length + Y.length) (by omega) w
      have hs2 : ((szAt X.length Y.length 2 : Nat) : Int) = ((X.length + Y.length : Nat) : Int) := rfl
      rw [hs2]
      go_wp2_with (go_at_call 43; refine hcg.mono ?_; rintro e W1 ⟨v1, rfl, hown, hB1⟩)
      go_loopw [6, 27] (fun v i wr2 => C2 w X Y v i wr2) (fun _ i _ => 2 - (intOf i).toNat)
      case atStart => exact ⟨0, Nat.zero_le _, rfl, hown, hB1⟩
      case round =>
        obtain ⟨k, hk, rfl, hown, hB⟩ := hrel
        have e0 := (hB.cell (p := ⟨bs, 0, none⟩) hbs).trans c0
        have e1 := (hB.cell (p := ⟨bs, 1, none⟩) hbs).trans c1
        have hbase := hB.size
        obtain rfl | rfl | rfl : k = 0 ∨ k = 1 ∨ k = 2 := by omega
        · have HO : Hid (wr.ownsRow w.heap.size 27 4 u6 0 []) := hown
          have HM : Hid (0 + X.length ≤ maxLen ∧ (0 + X.length) * 48 ≤ 140737488355328) := by unfold maxLen; exact ⟨by omega, by omega⟩
          have HN : Hid (At wr a1 X) := fun j u hu => (hB.cell (by rw [show (a1.add j).block = a1.block by unfold Addr.add; split <;> rfl]; exact h1)).trans (HA.out.1 j u hu)
          clear hown
          go_wp2_with (at_builtin; refine wpList_append_own _ rfl (.tmp 31) (.tmp 32) 23 rfl w.heap.size 27 i0 _ 4 48 Tryz.underlying23 hi0 hz0 hz1 hz2 rfl (by decide) u6 0 [] rfl HO.out a1 X.length ca (cellsOf X) rfl (cellsOf_len X) HN.out (cellsOf_one X) HM.out.1 HM.out.2 hbase ?_; intro v2 w2 hown2 hgrow2 _; refine Hid.out ?_)
          refine Lib.hid ?_
          have R' : Hid (C2 w X Y v2 (.int .i64 1) w2) := ⟨1, by omega, rfl, by simpa [partAt] using hown2, hB.grown hgrow2 hB.size (fun k hk => (HO.out.lt k hk).1)⟩
          clear hown2
          go_wp2
          refine ⟨?_, ?_⟩
          · first
              | exact R'.out
              | ((repeat apply Exists.intro)
                 refine ⟨?_, rfl⟩
                 exact R'.out)
          · simp [intOf]
        · have HO : Hid (wr.ownsRow w.heap.size 27 4 u6 X.length (cellsOf X)) := hown
          have HM : Hid (X.length + Y.length ≤ maxLen ∧ (X.length + Y.length) * 48 ≤ 140737488355328) := by unfold maxLen; exact ⟨by omega, by omega⟩
          have HN : Hid (At wr a2 Y) := fun j u hu => (hB.cell (by rw [show (a2.add j).block = a2.block by unfold Addr.add; split <;> rfl]; exact h2)).trans (HA.out.2 j u hu)
          clear hown
          go_wp2_with (at_builtin; refine wpList_append_own _ rfl (.tmp 31) (.tmp 32) 23 rfl w.heap.size 27 i0 _ 4 48 Tryz.underlying23 hi0 hz0 hz1 hz2 rfl (by decide) u6 X.length (cellsOf X) rfl HO.out a2 Y.length cb (cellsOf Y) rfl (cellsOf_len Y) HN.out (cellsOf_one Y) HM.out.1 HM.out.2 hbase ?_; intro v2 w2 hown2 hgrow2 _; refine Hid.out ?_)
          refine Lib.hid ?_
          have R' : Hid (C2 w X Y v2 (.int .i64 2) w2) := ⟨2, by omega, rfl, by simpa [partAt, cellsOf_app] using hown2, hB.grown hgrow2 hB.size (fun k hk => (HO.out.lt k hk).1)⟩
          clear hown2
          go_wp2
          refine ⟨?_, ?_⟩
          · first
              | exact R'.out
              | ((repeat apply Exists.intro)
                 refine ⟨?_, rfl⟩
                 exact R'.out)
          · simp [intOf]
        · have HO : Hid (wr.ownsRow w.heap.size 27 4 u6 (X ++ Y).length (cellsOf (X ++ Y))) := hown
          clear hown
          go_wp2
          go_ret
          exact ⟨_, rfl, HO.out, hB⟩
end Go.Proofs.YtghlncdnnmpikaaGreatDoor
