/-
  The walks of slices.Grow and slices.Concat with two parts.
-/
import Derived.Test.YtifhigajonafdaaGreatS12
import Derived.Shelf.Spec.SlicesGrow
import Derived.Deep.RegionWith
import Derived.Test.YtifhigajonafdaaGreatS11
import Derived.Test.YtifhigajonafdaaGreatS10
namespace Go.Proofs.YtifhigajonafdaaGreat
open Go.RowKit Go.Shelf
set_option linter.unusedVariables false
set_option linter.unusedSimpArgs false

def growRen : Go.Shelf.Ren := ⟨fun | 4 => 145 | n => n, fun | 22 => 46 | 25 => 52 | n => n, fun | n => n⟩
theorem growLays : Go.Proofs.Lays8.n4 Tryz.prog growRen := {
  mixed := by kernel_rfl
  f4 := ⟨ "slices.Grow[kinshape/api.Record,kinshape/api.Prop]", by decide, Tryz.func145.trans (congrArg some (by kernel_rfl))⟩
  t0 := Tryz.underlying0
  a0 := Tryz.isAgg0
  z0 := Tryz.sizeOf0
  v0 := Tryz.zeroValue0
  t3 := Tryz.underlying3
  a3 := Tryz.isAgg3
  z3 := Tryz.sizeOf3
  v3 := Tryz.zeroValue3
  t4 := Tryz.underlying4
  a4 := Tryz.isAgg4
  z4 := Tryz.sizeOf4
  v4 := Tryz.zeroValue4
  t9 := Tryz.underlying9
  a9 := Tryz.isAgg9
  z9 := Tryz.sizeOf9
  v9 := Tryz.zeroValue9
  t20 := Tryz.underlying20
  a20 := Tryz.isAgg20
  z20 := Tryz.sizeOf20
  v20 := Tryz.zeroValue20
  t22 := Tryz.underlying46
  a22 := Tryz.isAgg46
  z22 := Tryz.sizeOf46
  v22 := Tryz.zeroValue46 }

set_option maxHeartbeats 1000000 in
theorem grow_zero (w : World) :
    Calls Tryz.prog 145 #[.slice none 0 0, .int .i64 0] w fun e w' => e = .returned (.slice none 0 0) ∧ w' = w := by
  go_enter Tryz.func145, Tryz.ntmps145
  go_wp2
  go_ret
  exact ⟨rfl, rfl⟩
theorem grow_any (n : Nat) (hn : n ≤ 16) (w : World) :
    Calls Tryz.prog 145 #[.slice none 0 0, .int .i64 n] w fun e w' => ∃ v, e = .returned v ∧ w'.ownsRow w.heap.size 52 4 v 0 [] ∧ Below w.heap.size w w' := by
  obtain ⟨i0, hi0, hz0, hz1, hz2⟩ := info_parts info33
  by_cases h0 : n = 0
  · subst h0
    refine (grow_zero w).mono ?_
    rintro e w' ⟨rfl, rfl⟩
    exact ⟨_, rfl, World.ownsRow_nil _ _ _ _, Below.refl _ _⟩
  · refine (Any8.slices_Grow_grow growLays i0 _ hi0 hz0 (by omega) none 0 0 n [] w (Nat.le_refl _) (by omega) (by rw [hz2]; omega) (by omega) (by simp) (fun _ => rfl) (fun a ha => by cases ha)).mono ?_
    rintro e w' ⟨rfl, rfl⟩
    have hge := grownCap_ge w (0 + n) 0 52
    have hcm := grownCap_le_maxLen w (0 + n) 0 52 (by unfold maxLen; omega)
    refine ⟨_, rfl, World.ownsRow_made (w := w.drew) _ _ (Nat.le_refl _) hcm ?_, b_alloc (Below.refl _ _).drew _⟩
    simp only [Array.size_append, List.size_toArray, List.length_nil, size_zeroCells]
    show 0 + (0 + n - 0) * 4 + (grownCap w (0 + n) 0 52 - (0 + n)) * 4 = grownCap w (0 + n) 0 52 * 4
    omega

def szAt (a b k : Nat) : Nat := if k = 0 then 0 else if k = 1 then a else a + b
def partAt (X Y : List Pr) (k : Nat) : List Pr := if k = 0 then [] else if k = 1 then X else X ++ Y
def At (w : World) (a : Addr) (L : List Pr) : Prop := ∀ j u, (cellsOf L)[j]? = some u → w.cell? (a.add j) = some u

def C1 (w : World) (a b : Nat) (s i : Value) (wr : World) : Prop := ∃ k : Nat, k ≤ 2 ∧ i = .int .i64 k ∧ s = .int .i64 (szAt a b k) ∧ wr = w
def C2 (w : World) (X Y : List Pr) (v i : Value) (wr : World) : Prop := ∃ k : Nat, k ≤ 2 ∧ i = .int .i64 k ∧ wr.ownsRow w.heap.size 52 4 v (partAt X Y k).length (cellsOf (partAt X Y k)) ∧ Below w.heap.size w wr

set_option maxHeartbeats 4000000 in
set_option maxRecDepth 100000 in
theorem concat_two (bs : Nat) (a1 a2 : Addr) (ca cb : Nat) (X Y : List Pr) (w : World) (hX : X.length ≤ 8) (hY : Y.length ≤ 8) (hbs : bs < w.heap.size) (h1 : a1.block < w.heap.size) (h2 : a2.block < w.heap.size)
    (c0 : w.cell? ⟨bs, 0, none⟩ = some (.slice (some a1) X.length ca)) (c1 : w.cell? ⟨bs, 1, none⟩ = some (.slice (some a2) Y.length cb)) (hA : At w a1 X) (hC : At w a2 Y) :
    Calls Tryz.prog 114 #[.slice (some ⟨bs, 0, none⟩) 2 2] w fun e w' => ∃ v, e = .returned v ∧ w'.ownsRow w.heap.size 52 4 v (X ++ Y).length (cellsOf (X ++ Y)) ∧ Below w.heap.size w w' := by
  obtain ⟨i0, hi0, hz0, hz1, hz2⟩ := info_parts info33
  have HA : Hid (At w a1 X ∧ At w a2 Y) := ⟨hA, hC⟩
  clear hA hC
  go_enter Tryz.func114, Tryz.ntmps114
  go_wp2
  go_loopw [3, 11] (fun s i wr => C1 w X.length Y.length s i wr) (fun _ i _ => 2 - (intOf i).toNat)
  case atStart => exact ⟨0, Nat.zero_le _, rfl, rfl, rfl⟩
  case round =>
    obtain ⟨k, hk, rfl, rfl, hw⟩ := hrel
    have hw' := hw.symm
    subst hw'
    obtain rfl | rfl | rfl : k = 0 ∨ k = 1 ∨ k = 2 := by omega
    · have R : C1 w X.length Y.length (.int .i64 (X.length : Int)) (.int .i64 1) w := ⟨1, by omega, rfl, by simp [szAt], rfl⟩
      have R' : Hid (C1 w X.length Y.length (.int .i64 (X.length : Int)) (.int .i64 1) w) := R
      clear R
      have hs0 : ((szAt X.length Y.length 0 : Nat) : Int) = 0 := rfl
      rw [hs0]
      go_wp2
      refine ⟨?_, ?_⟩
      · first
          | exact R'.out
          | ((repeat apply Exists.intro)
             refine ⟨?_, rfl⟩
             exact R'.out)
      · simp [intOf]
    · have R' : Hid (C1 w X.length Y.length (.int .i64 ((X.length : Int) + (Y.length : Int))) (.int .i64 2) w) := ⟨2, by omega, rfl, by simp [szAt], rfl⟩
      have hs1 : ((szAt X.length Y.length 1 : Nat) : Int) = (X.length : Int) := rfl
      rw [hs1]
      go_wp2
      refine ⟨?_, ?_⟩
      · first
          | exact R'.out
          | ((repeat apply Exists.intro)
             refine ⟨?_, rfl⟩
             exact R'.out)
      · simp [intOf]
    · have hcg := grow_any (X.length + Y.length) (by omega) w
      have hs2 : ((szAt X.length Y.length 2 : Nat) : Int) = ((X.length + Y.length : Nat) : Int) := rfl
      rw [hs2]
      go_wp2_with (go_at_call 145; refine hcg.mono ?_; rintro e W1 ⟨v1, rfl, hown, hB1⟩)
      go_loopw [6, 27] (fun v i wr2 => C2 w X Y v i wr2) (fun _ i _ => 2 - (intOf i).toNat)
      case atStart => exact ⟨0, Nat.zero_le _, rfl, hown, hB1⟩
      case round =>
        obtain ⟨k, hk, rfl, hown, hB⟩ := hrel
        have e0 := (hB.cell (p := ⟨bs, 0, none⟩) hbs).trans c0
        have e1 := (hB.cell (p := ⟨bs, 1, none⟩) hbs).trans c1
        have hbase := hB.size
        obtain rfl | rfl | rfl : k = 0 ∨ k = 1 ∨ k = 2 := by omega
        · have HO : Hid (wr.ownsRow w.heap.size 52 4 u6 0 []) := hown
          have HM : Hid (0 + X.length ≤ maxLen ∧ (0 + X.length) * 48 ≤ 140737488355328) := by unfold maxLen; exact ⟨by omega, by omega⟩
          have HN : Hid (At wr a1 X) := fun j u hu => (hB.cell (by rw [show (a1.add j).block = a1.block by unfold Addr.add; split <;> rfl]; exact h1)).trans (HA.out.1 j u hu)
          clear hown
          go_wp2_with (at_builtin; refine wpList_append_own _ rfl (.tmp 31) (.tmp 32) 46 rfl w.heap.size 52 i0 _ 4 48 Tryz.underlying46 hi0 hz0 hz1 hz2 rfl (by decide) u6 0 [] rfl HO.out a1 X.length ca (cellsOf X) rfl (cellsOf_len X) HN.out (cellsOf_one X) HM.out.1 HM.out.2 hbase ?_; intro v2 w2 hown2 hgrow2 _; refine Hid.out ?_)
          refine Lib.hid ?_
          have R' : Hid (C2 w X Y v2 (.int .i64 1) w2) := ⟨1, by omega, rfl, by simpa [partAt] using hown2, hB.grown hgrow2 hB.size (fun k hk => (HO.out.lt k hk).1)⟩
          clear hown2
          go_wp2
          refine ⟨?_, ?_⟩
          · first
              | exact R'.out
              | ((repeat apply Exists.intro)
                 refine ⟨?_, rfl⟩
                 exact R'.out)
          · simp [intOf]
        · have HO : Hid (wr.ownsRow w.heap.size 52 4 u6 X.length (cellsOf X)) := hown
          have HM : Hid (X.length + Y.length ≤ maxLen ∧ (X.length + Y.length) * 48 ≤ 140737488355328) := by unfold maxLen; exact ⟨by omega, by omega⟩
          have HN : Hid (At wr a2 Y) := fun j u hu => (hB.cell (by rw [show (a2.add j).block = a2.block by unfold Addr.add; split <;> rfl]; exact h2)).trans (HA.out.2 j u hu)
          clear hown
          go_wp2_with (at_builtin; refine wpList_append_own _ rfl (.tmp 31) (.tmp 32) 46 rfl w.heap.size 52 i0 _ 4 48 Tryz.underlying46 hi0 hz0 hz1 hz2 rfl (by decide) u6 X.length (cellsOf X) rfl HO.out a2 Y.length cb (cellsOf Y) rfl (cellsOf_len Y) HN.out (cellsOf_one Y) HM.out.1 HM.out.2 hbase ?_; intro v2 w2 hown2 hgrow2 _; refine Hid.out ?_)
          refine Lib.hid ?_
          have R' : Hid (C2 w X Y v2 (.int .i64 2) w2) := ⟨2, by omega, rfl, by simpa [partAt, cellsOf_app] using hown2, hB.grown hgrow2 hB.size (fun k hk => (HO.out.lt k hk).1)⟩
          clear hown2
          go_wp2
          refine ⟨?_, ?_⟩
          · first
              | exact R'.out
              | ((repeat apply Exists.intro)
                 refine ⟨?_, rfl⟩
                 exact R'.out)
          · simp [intOf]
        · have HO : Hid (wr.ownsRow w.heap.size 52 4 u6 (X ++ Y).length (cellsOf (X ++ Y))) := hown
          clear hown
          go_wp2
          go_ret
          exact ⟨_, rfl, HO.out, hB⟩
end Go.Proofs.YtifhigajonafdaaGreat

/-
  The walk of record.Unset.
-/
namespace Go.Proofs.YtifhigajonafdaaGreat
open Go.RowKit
set_option linter.unusedVariables false
set_option linter.unusedSimpArgs false

theorem take_lies {w : World} {b off : Nat} {L : List Pr} (h : Lies w b off L) (i : Nat) : Lies w b off (L.take i) := fun k p hp => by
  refine h k p ?_
  rw [List.getElem?_take] at hp
  split at hp
  · exact hp
  · cases hp

theorem cat_call {w W1 : World} {b off cap j o2 c2 : Nat} {L : List Pr} (hL : Lies w b off L) (hb : b < w.heap.size) (hB : Below w.heap.size w W1) (ho : L.length = j + 1 ∨ o2 = off + (j + 1) * 4) (e1 : Hid ((L.take j).length = j ∧ (L.drop (j + 1)).length = L.length - (j + 1))) (hn : L.length ≤ 8) :
    Calls Tryz.prog 114 #[.slice (some ⟨W1.heap.size, 0, none⟩) 2 2] ((W1.alloc (.cells #[.slice (some ⟨b, off, none⟩) j cap, .slice (some ⟨b, o2, none⟩) (L.length - (j + 1)) c2] 46)).drew) fun e w' => ∃ v, e = .returned v ∧
      w'.ownsRow (W1.heap.size + 1) 52 4 v (L.take j ++ L.drop (j + 1)).length (cellsOf (L.take j ++ L.drop (j + 1))) ∧ Below (W1.heap.size + 1) ((W1.alloc (.cells #[.slice (some ⟨b, off, none⟩) j cap, .slice (some ⟨b, o2, none⟩) (L.length - (j + 1)) c2] 46)).drew) w' := by
  obtain ⟨h1, h2⟩ := e1.out
  have hbW : b < W1.heap.size := Nat.lt_of_lt_of_le hb hB.size
  have hBd := (b_alloc hB (.cells #[.slice (some ⟨b, off, none⟩) j cap, .slice (some ⟨b, o2, none⟩) (L.length - (j + 1)) c2] 46)).drew
  have := concat_two W1.heap.size ⟨b, off, none⟩ ⟨b, o2, none⟩ cap c2 (L.take j) (L.drop (j + 1)) ((W1.alloc (.cells #[.slice (some ⟨b, off, none⟩) j cap, .slice (some ⟨b, o2, none⟩) (L.length - (j + 1)) c2] 46)).drew)
    (by rw [List.length_take]; omega) (by omega) (by simp) (by simp; omega) (by simp; omega) (by rw [h1]; simp) (by rw [h2]; simp)
    (lies_cells ((take_lies hL j).on hb hBd))
    (by
      rcases ho with ho | rfl
      · intro i u hu
        rw [List.drop_eq_nil_of_le (by omega)] at hu
        simp [cellsOf] at hu
      · exact lies_cells ((hL.drop (j + 1)).on hb hBd))
  simpa using this
theorem un_below {w W1 W2 : World} {o : Obj} (hB1 : Below w.heap.size w W1) (hB2 : Below (W1.heap.size + 1) (W1.alloc o).drew W2) : Below w.heap.size w W2 :=
  ((b_alloc hB1 o).drew).trans (hB2.mono (by have := hB1.size; omega))

end Go.Proofs.YtifhigajonafdaaGreat

/-
  The walk of record.Unset.
-/
namespace Go.Proofs.YtifhigajonafdaaGreat
open Go.RowKit
set_option linter.unusedVariables false
set_option linter.unusedSimpArgs false
set_option maxHeartbeats 8000000 in
set_option maxRecDepth 100000 in
theorem unset_some (b off cap : Nat) (L : List Pr) (s : ByteArray) (w : World) (hb : b < w.heap.size) (hL : Lies w b off L) (hs : Sz L) (hcap : L.length ≤ cap) (he : rfErr s.toList L = 0) (j : Nat) (hj : idxP s.toList L 0 = (j : Int)) (hjl : j < L.length) (hn : L.length ≤ 8) :
    Calls Tryz.prog 83 #[.slice (some ⟨b, off, none⟩) L.length cap, .string s] w fun e w' => ∃ v, e = .returned (.tuple #[v, .nilIface]) ∧ w'.ownsRow w.heap.size 52 4 v (L.take j ++ L.drop (j + 1)).length (cellsOf (L.take j ++ L.drop (j + 1))) ∧ Below w.heap.size w w' := by
  have c1 := rfind_any (v := .slice (some ⟨b, off, none⟩) L.length cap) (w := w) ⟨_, cap, rfl, .inr ⟨b, off, rfl, hb, hL⟩⟩ hs (by unfold maxLen; omega) s
  have hA : rfAt s.toList L = (j : Int) := by unfold rfAt; rw [if_pos he, hj]
  rw [he, errV_0, hA] at c1
  have HK : Hid (Lies w b off L) := hL
  have h1 : (j : Int) ≤ (L.length : Int) := by omega
  have h1c : (j : Int) ≤ (cap : Int) := by omega
  have h2 : (j : Int) + 1 ≤ (L.length : Int) := by omega
  have hw : IntKind.i64.wrap ((j : Int) + 1) = (j : Int) + 1 := by rw [IntKind.wrap_i64]; omega
  have ht : ((j : Int) + 1).toNat = j + 1 := by omega
  have e1 : Hid ((L.take j).length = j ∧ (L.drop (j + 1)).length = L.length - (j + 1)) := ⟨by simp; omega, by simp⟩
  clear hL hs he hj hA
  by_cases hc : cap = j + 1
  · have hl : Hid (L.length = j + 1) := by show _ = _; omega
    subst hc
    go_enter Tryz.func83, Tryz.ntmps83
    go_wp2_with (go_at_call 113; refine c1.mono ?_; rintro e W1 ⟨rfl, hB1⟩; refine Hid.out ?_)
    refine Lib.hid ?_
    have hbW : b < W1.heap.size := Nat.lt_of_lt_of_le hb hB1.size
    have cc := cat_call (cap := j + 1) (o2 := off) (c2 := 0) HK.out hb hB1 (Or.inl hl.out) e1 hn
    rw [show L.length - (j + 1) = 0 by have := hl.out; omega] at cc
    go_wp2_with fail
    go_region_with (go_at_call 114; refine cc.mono ?_; rintro e W2 ⟨v2, rfl, hown2, hB2⟩)
    all_goals
      go_wp2
      go_ret2
      exact ⟨v2, rfl, own_base hown2 (Nat.le_trans hB1.size (Nat.le_succ _)), un_below hB1 hB2⟩
  · go_enter Tryz.func83, Tryz.ntmps83
    go_wp2_with (go_at_call 113; refine c1.mono ?_; rintro e W1 ⟨rfl, hB1⟩; refine Hid.out ?_)
    refine Lib.hid ?_
    have hbW : b < W1.heap.size := Nat.lt_of_lt_of_le hb hB1.size
    have cc := cat_call (cap := cap) (c2 := cap - (j + 1)) (o2 := off + (j + 1) * 4) HK.out hb hB1 (Or.inr rfl) e1 hn
    go_wp2_with fail
    go_region_with (go_at_call 114; refine cc.mono ?_; rintro e W2 ⟨v2, rfl, hown2, hB2⟩)
    all_goals
      go_wp2
      go_ret2
      exact ⟨v2, rfl, own_base hown2 (Nat.le_trans hB1.size (Nat.le_succ _)), un_below hB1 hB2⟩
def unL (nm : List UInt8) (L : List Pr) : List Pr := L.take (idxP nm L 0).toNat ++ L.drop ((idxP nm L 0).toNat + 1)
theorem unset_ok {w : World} {base : Nat} {v : Value} {L : List Pr} (h : w.ownsRow base 52 4 v L.length (cellsOf L)) (hs : Sz L) (s : ByteArray) (hr : rErr L = 0) (hx : ¬ idxP s.toList L 0 = -1) :
    Calls Tryz.prog 83 #[v, .string s] w fun e w' => ∃ v', e = .returned (.tuple #[v', .nilIface]) ∧ w'.ownsRow w.heap.size 52 4 v' (unL s.toList L).length (cellsOf (unL s.toList L)) ∧ Below w.heap.size w w' := by
  have hn := rErr_len hr
  have he : rfErr s.toList L = 0 := by unfold rfErr; rw [if_pos hr, if_neg hx]
  rcases idxP_spec s.toList L 0 with h1 | ⟨j, q, hj, hq, _⟩
  · exact absurd h1 hx
  · have hjl := (List.getElem?_eq_some_iff.1 hq).1
    rw [Nat.zero_add] at hj
    have e : unL s.toList L = L.take j ++ L.drop (j + 1) := by unfold unL; rw [hj]; rfl
    rw [e]
    rcases own_isRec h with ⟨_, rfl⟩ | ⟨b, off, cap, rfl, hc, hb, hl⟩
    · simp at hjl
    · exact unset_some b off cap L s w hb hl hs hc he j hj hjl hn
set_option maxHeartbeats 1000000 in
theorem unset_no {v : Value} {L : List Pr} {w : World} (h : IsR w v L) (hs : Sz L) (s : ByteArray) (hr : rErr L = 0) (hx : idxP s.toList L 0 = -1) :
    Calls Tryz.prog 83 #[v, .string s] w fun e w' => e = .returned (.tuple #[.slice none 0 0, .iface 74 (.int .i64 5)]) ∧ Below w.heap.size w w' := by
  have he : rfErr s.toList L = 5 := by unfold rfErr; rw [if_pos hr, if_pos hx]
  have c1 := rfind_any h hs (by have := rErr_len hr; unfold maxLen; omega) s
  rw [he, show errV 5 = .iface 74 (.int .i64 5) from rfl] at c1
  obtain ⟨ao, c, rfl, _⟩ := h
  clear he hx hr hs
  generalize rfAt s.toList L = x at *
  go_enter Tryz.func83, Tryz.ntmps83
  go_wp2_with (first | (go_at_call 113; refine c1.mono ?_; rintro e W1 ⟨rfl, hB1⟩))
  go_ret2
  exact ⟨rfl, hB1⟩
end Go.Proofs.YtifhigajonafdaaGreat

/-
  The walks of the two changes of a record that delta.apply hands on.
-/
namespace Go.Proofs.YtifhigajonafdaaGreat
open Go.RowKit
set_option linter.unusedVariables false
set_option linter.unusedSimpArgs false

abbrev opB (o : Opx) : Array Value := #[.int .i64 o.wh, .int .i64 o.nd.id, .string o.nd.kd, o.nd.rv, .string o.pr.nm, .int .i64 o.pr.t, .int .i64 o.pr.n, .string o.pr.s, .string o.te.bd, .int .i64 o.te.fr, .int .i64 o.te.tt]
theorem OwnRc.rec' {w : World} {base : Nat} {v : Value} {L : List Pr} (h : OwnRc w base v L) : w.ownsRow base 52 4 v L.length (cellsOf L) := h

set_option maxHeartbeats 1000000 in
theorem ap1_any {w : World} {base q : Nat} {o : Opx} {rv : Value} {rc : List Pr} (hq : w.heap[q]? = some (.cells (opB o) 56 (0, 0))) (hO : OwnRc w base rv rc) (hs : Sz rc) (hr : rErr rc = 0) (hp : Sz [o.pr]) : ChP 80 q rv (rsErr o.pr rc) (ins o.pr rc) w := by
  intro W hB
  have hO' := hO.kt (.of_below hB)
  have c := set_any (own_isRec hO'.rec') hs (by have := rErr_len hr; unfold maxLen; omega) o.pr hp
  have hq' := (hB.block q (Array.getElem?_eq_some_iff.1 hq).1).trans hq
  obtain ⟨av, lv, cv, rfl⟩ := hO.sl
  have x4 : W.cell? ⟨q, 4, none⟩ = some (.string o.pr.nm) := cell_at hq' rfl
  have x5 : W.cell? ⟨q, 5, none⟩ = some (.int .i64 o.pr.t) := cell_at hq' rfl
  have x6 : W.cell? ⟨q, 6, none⟩ = some (.int .i64 o.pr.n) := cell_at hq' rfl
  have x7 : W.cell? ⟨q, 7, none⟩ = some (.string o.pr.s) := cell_at hq' rfl
  have c' : Calls Tryz.prog 81 #[.slice av lv cv, o.pr.one] W fun e w' => ∃ a l c, e = .returned (.tuple #[.slice a l c, errV (rsErr o.pr rc)]) ∧ (rsErr o.pr rc = 0 → OwnRc w' W.heap.size (.slice a l c) (ins o.pr rc)) ∧ Below W.heap.size W w' := c.mono fun e w' h => by
    obtain ⟨v, rfl, h1, h2, h3⟩ := h
    by_cases hz : rsErr o.pr rc = 0
    · have ho := h1 hz
      obtain ⟨ao, cp, rfl⟩ := own_slice ho
      exact ⟨_, _, _, rfl, fun _ => ho, h3⟩
    · rw [h2 hz]
      exact ⟨none, 0, 0, rfl, fun h => absurd h hz, h3⟩
  clear c hO hO' hq hq' hs hr hp
  generalize rsErr o.pr rc = z at *
  generalize errV z = E at *
  generalize ins o.pr rc = r' at *
  obtain ⟨wh, nd, ⟨nm, pt, pn, ps⟩, te⟩ := o
  simp only at x4 x5 x6 x7 c'
  go_enter Tryz.func80, Tryz.ntmps80
  go_wp2_with (first | (go_at_call 81; refine c'.mono ?_; rintro e W2 ⟨a, l, c, rfl, h1, hB2⟩))
  go_ret2
  exact ⟨a, l, c, rfl, h1, hB2⟩

def unE (nm : List UInt8) (L : List Pr) : Int := if idxP nm L 0 = -1 then 5 else 0
set_option maxHeartbeats 1000000 in
theorem ap2_any {w : World} {base q : Nat} {o : Opx} {rv : Value} {rc : List Pr} (hq : w.heap[q]? = some (.cells (opB o) 56 (0, 0))) (hO : OwnRc w base rv rc) (hs : Sz rc) (hr : rErr rc = 0) : ChP 82 q rv (unE o.pr.nm.toList rc) (unL o.pr.nm.toList rc) w := by
  intro W hB
  have hO' := hO.kt (.of_below hB)
  have hq' := (hB.block q (Array.getElem?_eq_some_iff.1 hq).1).trans hq
  have c' : Calls Tryz.prog 83 #[rv, .string o.pr.nm] W fun e w' => ∃ a l c, e = .returned (.tuple #[.slice a l c, errV (unE o.pr.nm.toList rc)]) ∧ (unE o.pr.nm.toList rc = 0 → OwnRc w' W.heap.size (.slice a l c) (unL o.pr.nm.toList rc)) ∧ Below W.heap.size W w' := by
    by_cases hx : idxP o.pr.nm.toList rc 0 = -1
    · have e : unE o.pr.nm.toList rc = 5 := by unfold unE; rw [if_pos hx]
      rw [e]
      refine (unset_no hO'.isR hs o.pr.nm hr hx).mono ?_
      rintro e w' ⟨rfl, h⟩
      exact ⟨none, 0, 0, rfl, fun h => (by cases h), h⟩
    · have e : unE o.pr.nm.toList rc = 0 := by unfold unE; rw [if_neg hx]
      rw [e]
      refine (unset_ok hO'.rec' hs o.pr.nm hr hx).mono ?_
      rintro e w' ⟨v', rfl, h1, h2⟩
      obtain ⟨ao, cp, rfl⟩ := own_slice h1
      exact ⟨_, _, _, rfl, fun _ => h1, h2⟩
  obtain ⟨av, lv, cv, rfl⟩ := hO.sl
  have x4 : W.cell? ⟨q, 4, none⟩ = some (.string o.pr.nm) := cell_at hq' rfl
  clear hO hO' hq hq' hs hr
  generalize unE o.pr.nm.toList rc = z at *
  generalize errV z = E at *
  generalize unL o.pr.nm.toList rc = r' at *
  obtain ⟨wh, nd, ⟨nm, pt, pn, ps⟩, te⟩ := o
  simp only at x4 c'
  go_enter Tryz.func82, Tryz.ntmps82
  go_wp2_with (first | (go_at_call 83; refine c'.mono ?_; rintro e W2 ⟨a, l, c, rfl, h1, hB2⟩))
  go_ret2
  exact ⟨a, l, c, rfl, h1, hB2⟩
end Go.Proofs.YtifhigajonafdaaGreat

/-
  The walk of delta.addTie.
-/
namespace Go.Proofs.YtifhigajonafdaaGreat
open Go.RowKit
set_option linter.unusedVariables false
set_option linter.unusedSimpArgs false

def bindE (t : Te) (T : List Te) : Int := if gErr [] [t] = 0 then (if fndT t T = true then 7 else if T.length = 120 then 4 else 0) else gErr [] [t]
def bindT (t : Te) (T : List Te) : List Te := T.take (loT t T) ++ t :: T.drop (loT t T)
abbrev atW (w : World) (t : Te) : World := (w.alloc (.cells #[.string t.bd, .int .i64 t.fr, .int .i64 t.tt] 54)).alloc (.cells #[.string t.bd, .int .i64 t.fr, .int .i64 t.tt] 54)
theorem atW_1 (w : World) (t : Te) : (atW w t).heap[w.heap.size + 1]? = some (.cells #[.string t.bd, .int .i64 t.fr, .int .i64 t.tt] 54 (0, 0)) := by
  have := heap_alloc_new (w.alloc (.cells #[.string t.bd, .int .i64 t.fr, .int .i64 t.tt] 54)) (.cells #[.string t.bd, .int .i64 t.fr, .int .i64 t.tt] 54)
  rwa [World.size_alloc] at this
theorem atW_isT (w : World) (t : Te) : IsT (atW w t) (.slice (some ⟨w.heap.size + 1, 0, none⟩) 1 1) [t] := by
  refine ⟨_, 1, rfl, Nat.le_refl _, .inr ⟨w.heap.size + 1, 0, rfl, by simp [atW], fun k x hx => ?_⟩⟩
  obtain ⟨rfl, rfl⟩ : k = 0 ∧ t = x := by
    have := (List.getElem?_eq_some_iff.1 hx).1
    have hk : k = 0 := by simp at this; exact this
    subst hk
    exact ⟨rfl, by simpa using hx⟩
  exact ⟨cell_at (atW_1 w t) rfl, cell_at (atW_1 w t) rfl, cell_at (atW_1 w t) rfl⟩
theorem isN_nil (w : World) : IsN w (.slice none 0 0) [] := ⟨none, 0, rfl, Nat.le_refl _, .inl rfl⟩

set_option maxHeartbeats 4000000 in
set_option maxRecDepth 100000 in
theorem addTie_any {w : World} {base p : Nat} {N : List Nd} {T : List Te} (h : OG w base p N T) (hbw : base ≤ w.heap.size) (hs : SrtT T) (h120 : T.length ≤ 120) (t : Te) (zt : t.bd.size ≤ maxLen) :
    Calls Tryz.prog 84 #[.pointer (some ⟨p, 0, none⟩), t.one] w fun e w' => e = .returned (errV (bindE t T)) ∧ (bindE t T = 0 → OG w' base p N (bindT t T)) ∧ Below base w w' := by
  obtain ⟨vn, vt, hbp, hpb, hN, hT⟩ := h
  have D : OGv w base p vn vt N T := ⟨hbp, hpb, hN, hT⟩
  have hBA : Below w.heap.size w (atW w t) := b_alloc (b_alloc (Below.refl _ _) _) _
  have cG := gcheck_any (isN_nil (atW w t)) (atW_isT w t) (fun n hn => by cases hn) (fun x hx => by simp at hx; subst hx; exact zt) (by show 0 ≤ maxLen; decide) (by show 1 ≤ maxLen; decide)
  obtain ⟨W0, hW0⟩ : ∃ W0, W0 = w.alloc (.cells #[.string t.bd, .int .i64 t.fr, .int .i64 t.tt] 54) := ⟨_, rfl⟩
  have hB0 : Below w.heap.size w W0 := by rw [hW0]; exact b_alloc (Below.refl _ _) _
  have hi0 : W0.heap[w.heap.size]? = some (.cells #[.string t.bd, .int .i64 t.fr, .int .i64 t.tt] 54 (0, 0)) := by rw [hW0]; exact heap_alloc_new w _
  have D0 := D.on hB0
  have hpl := D.pl
  obtain ⟨an, cn, hvn⟩ := own_slice hN.1
  obtain ⟨am, cm, hvt⟩ := own_slice hT
  subst hvn hvt
  have hs0 : W0.heap.size = w.heap.size + 1 := by rw [hW0]; simp
  unfold atW at cG hBA
  rw [← hW0] at cG hBA
  have x1 : W0.cell? ⟨w.heap.size, 0, none⟩ = some (.string t.bd) := cell_at hi0 rfl
  have x2 : W0.cell? ⟨w.heap.size, 1, none⟩ = some (.int .i64 t.fr) := cell_at hi0 rfl
  have x3 : W0.cell? ⟨w.heap.size, 2, none⟩ = some (.int .i64 t.tt) := cell_at hi0 rfl
  have HX : Hid (∀ W, Below W0.heap.size W0 W → OGv W base p (.slice an N.length cn) (.slice am T.length cm) N T ∧ W.heap[w.heap.size]? = some (.cells #[.string t.bd, .int .i64 t.fr, .int .i64 t.tt] 54 (0, 0)) ∧ Below w.heap.size w W) := fun W hB => ⟨D0.on hB, (hB.block _ (by omega)).trans hi0, on1K hB0 hB (Nat.le_refl _)⟩
  have HT : Hid (SrtT T ∧ T.length ≤ 120 ∧ ∀ W, IsT W (.slice am T.length cm) T → Calls Tryz.prog 115 #[.slice am T.length cm, t.one] W fun e w' => e = .returned (.tuple #[.int .i64 (loT t T), .bool (fndT t T)]) ∧ Below W.heap.size W w') := ⟨hs, h120, fun W hW => findTie_any hW hs (by omega) t⟩
  have hBX : Below W0.heap.size W0 (W0.alloc (.cells #[.string t.bd, .int .i64 t.fr, .int .i64 t.tt] 54)) := b_alloc (Below.refl _ _) _
  have HBX := Lib.hid hBX
  clear hpb hN hT hB0 hi0 D D0 hs hBA hBX
  have cF := fun W hW => HT.out.2.2 W hW
  by_cases hz : gErr [] [t] = 0
  · rw [hz, show errV 0 = .nilIface from rfl] at cG
    have hlo := loT_le t T
    have HL : Hid (bindT t T = T.take (loT t T) ++ t :: T.drop (loT t T)) := rfl
    cases hfd : fndT t T with
    | true =>
      have hE : bindE t T = 7 := by unfold bindE; rw [if_pos hz, if_pos hfd]
      rw [hE, show errV 7 = .iface 74 (.int .i64 7) from rfl]
      rw [hfd] at cF
      clear hz hE hfd
      obtain ⟨lo, hlo'⟩ : ∃ lo, lo = loT t T := ⟨_, rfl⟩
      rw [← hlo'] at cF hlo HL
      obtain ⟨bd, fr, tt⟩ := t
      simp only at x1 x2 x3 HX cG HBX
      clear hlo' zt HT
      go_enter Tryz.func84, Tryz.ntmps84
      go_upto_region 1 with fail
      rw [← hW0]
      clear hW0
      go_wp2_with (first | (go_at_call 41; refine cG.mono ?_; rintro e W1 ⟨rfl, hB1'⟩; refine Hid.out ?_))
      refine Lib.hid ?_
      have hB1 : Below W0.heap.size W0 W1 := on1K HBX.out hB1' (Nat.le_refl _)
      obtain ⟨D1, q1, b1⟩ := HX.out W1 hB1
      have y0 : W1.cell? ⟨p, 1, none⟩ = some (.slice am T.length cm) := cell_at D1.hp rfl
      have y1 : W1.cell? ⟨w.heap.size, 0, none⟩ = some (.string bd) := cell_at q1 rfl
      have y2 : W1.cell? ⟨w.heap.size, 1, none⟩ = some (.int .i64 fr) := cell_at q1 rfl
      have y3 : W1.cell? ⟨w.heap.size, 2, none⟩ = some (.int .i64 tt) := cell_at q1 rfl
      have cF1 := cF W1.drew D1.hT.isT
      have HB1 := Lib.hid hB1
      have HY : Hid (∀ W, Below W1.heap.size W1 W → W.cell? ⟨p, 1, none⟩ = some (.slice am T.length cm) ∧ W.cell? ⟨w.heap.size, 0, none⟩ = some (.string bd) ∧ W.cell? ⟨w.heap.size, 1, none⟩ = some (.int .i64 fr) ∧ W.cell? ⟨w.heap.size, 2, none⟩ = some (.int .i64 tt)) := fun W hB => by
        obtain ⟨D2, q2, _⟩ := HX.out W (on1K HB1.out hB (Nat.le_refl _))
        exact ⟨cell_at D2.hp rfl, cell_at q2 rfl, cell_at q2 rfl, cell_at q2 rfl⟩
      clear hB1 hB1' q1 b1 cG x1 x2 x3 HBX D1
      go_wp2
      first | (go_region_held (fun w' => w'.cell? ⟨p, 1, none⟩ = some (.slice am T.length cm) ∧ w'.cell? ⟨w.heap.size, 0, none⟩ = some (.string bd) ∧ w'.cell? ⟨w.heap.size, 1, none⟩ = some (.int .i64 fr) ∧ w'.cell? ⟨w.heap.size, 2, none⟩ = some (.int .i64 tt)) (go_keep) (first | (go_at_call 115; refine cF1.mono ?_; rintro e W2 ⟨rfl, hB2'⟩; have hB2 := b_undrew hB2'; clear hB2'; obtain ⟨z0, z1, z2, z3⟩ := HY.out W2 hB2))) | fail
      all_goals
        go_wp2
        go_ret
        exact ⟨rfl, fun h => (by cases h), (HX.out W2 (on1K HB1.out hB2 (Nat.le_refl _))).2.2.mono hbw⟩
    | false =>
      rw [hfd] at cF
      by_cases hfull : T.length = 120
      · have hE : bindE t T = 4 := by unfold bindE; rw [if_pos hz, hfd, if_neg (by decide), if_pos hfull]
        rw [hE, show errV 4 = .iface 74 (.int .i64 4) from rfl]
        clear hz hE hfd
        have hfb : ((T.length : Int) == 120) = true := by rw [hfull]; rfl
        clear hfull
        obtain ⟨lo, hlo'⟩ : ∃ lo, lo = loT t T := ⟨_, rfl⟩
        rw [← hlo'] at cF hlo HL
        obtain ⟨bd, fr, tt⟩ := t
        simp only at x1 x2 x3 HX cG HBX
        clear hlo' zt HT
        go_enter Tryz.func84, Tryz.ntmps84
        go_upto_region 1 with fail
        rw [← hW0]
        clear hW0
        go_wp2_with (first | (go_at_call 41; refine cG.mono ?_; rintro e W1 ⟨rfl, hB1'⟩; refine Hid.out ?_))
        refine Lib.hid ?_
        have hB1 : Below W0.heap.size W0 W1 := on1K HBX.out hB1' (Nat.le_refl _)
        obtain ⟨D1, q1, b1⟩ := HX.out W1 hB1
        have y0 : W1.cell? ⟨p, 1, none⟩ = some (.slice am T.length cm) := cell_at D1.hp rfl
        have y1 : W1.cell? ⟨w.heap.size, 0, none⟩ = some (.string bd) := cell_at q1 rfl
        have y2 : W1.cell? ⟨w.heap.size, 1, none⟩ = some (.int .i64 fr) := cell_at q1 rfl
        have y3 : W1.cell? ⟨w.heap.size, 2, none⟩ = some (.int .i64 tt) := cell_at q1 rfl
        have cF1 := cF W1.drew D1.hT.isT
        have HB1 := Lib.hid hB1
        have HY : Hid (∀ W, Below W1.heap.size W1 W → W.cell? ⟨p, 1, none⟩ = some (.slice am T.length cm) ∧ W.cell? ⟨w.heap.size, 0, none⟩ = some (.string bd) ∧ W.cell? ⟨w.heap.size, 1, none⟩ = some (.int .i64 fr) ∧ W.cell? ⟨w.heap.size, 2, none⟩ = some (.int .i64 tt)) := fun W hB => by
          obtain ⟨D2, q2, _⟩ := HX.out W (on1K HB1.out hB (Nat.le_refl _))
          exact ⟨cell_at D2.hp rfl, cell_at q2 rfl, cell_at q2 rfl, cell_at q2 rfl⟩
        clear hB1 hB1' q1 b1 cG x1 x2 x3 HBX D1
        go_wp2
        first | (go_region_held (fun w' => w'.cell? ⟨p, 1, none⟩ = some (.slice am T.length cm) ∧ w'.cell? ⟨w.heap.size, 0, none⟩ = some (.string bd) ∧ w'.cell? ⟨w.heap.size, 1, none⟩ = some (.int .i64 fr) ∧ w'.cell? ⟨w.heap.size, 2, none⟩ = some (.int .i64 tt)) (go_keep) (first | (go_at_call 115; refine cF1.mono ?_; rintro e W2 ⟨rfl, hB2'⟩; have hB2 := b_undrew hB2'; clear hB2'; obtain ⟨z0, z1, z2, z3⟩ := HY.out W2 hB2))) | fail
        all_goals
          go_wp2
          go_ret
          exact ⟨rfl, fun h => (by cases h), (HX.out W2 (on1K HB1.out hB2 (Nat.le_refl _))).2.2.mono hbw⟩
      · have hE : bindE t T = 0 := by unfold bindE; rw [if_pos hz, hfd, if_neg (by decide), if_neg hfull]
        rw [hE, show errV 0 = .nilIface from rfl]
        clear hz hE hfd
        have hfi : ¬ ((T.length : Int) = 120) := by omega
        generalize hBT : bindT t T = BT at *
        obtain ⟨lo, hlo'⟩ : ∃ lo, lo = loT t T := ⟨_, rfl⟩
        rw [← hlo'] at cF hlo HL
        obtain ⟨bd, fr, tt⟩ := t
        simp only at x1 x2 x3 HX cG HBX
        clear hlo' zt HT
        go_enter Tryz.func84, Tryz.ntmps84
        go_upto_region 1 with fail
        rw [← hW0]
        clear hW0
        go_wp2_with (first | (go_at_call 41; refine cG.mono ?_; rintro e W1 ⟨rfl, hB1'⟩; refine Hid.out ?_))
        refine Lib.hid ?_
        have hB1 : Below W0.heap.size W0 W1 := on1K HBX.out hB1' (Nat.le_refl _)
        obtain ⟨D1, q1, b1⟩ := HX.out W1 hB1
        have y0 : W1.cell? ⟨p, 1, none⟩ = some (.slice am T.length cm) := cell_at D1.hp rfl
        have y1 : W1.cell? ⟨w.heap.size, 0, none⟩ = some (.string bd) := cell_at q1 rfl
        have y2 : W1.cell? ⟨w.heap.size, 1, none⟩ = some (.int .i64 fr) := cell_at q1 rfl
        have y3 : W1.cell? ⟨w.heap.size, 2, none⟩ = some (.int .i64 tt) := cell_at q1 rfl
        have cF1 := cF W1.drew D1.hT.isT
        have HB1 := Lib.hid hB1
        have HY : Hid (∀ W, Below W1.heap.size W1 W → W.cell? ⟨p, 1, none⟩ = some (.slice am T.length cm) ∧ W.cell? ⟨w.heap.size, 0, none⟩ = some (.string bd) ∧ W.cell? ⟨w.heap.size, 1, none⟩ = some (.int .i64 fr) ∧ W.cell? ⟨w.heap.size, 2, none⟩ = some (.int .i64 tt)) := fun W hB => by
          obtain ⟨D2, q2, _⟩ := HX.out W (on1K HB1.out hB (Nat.le_refl _))
          exact ⟨cell_at D2.hp rfl, cell_at q2 rfl, cell_at q2 rfl, cell_at q2 rfl⟩
        clear hB1 hB1' q1 b1 cG x1 x2 x3 HBX D1
        go_wp2
        first | (go_region_held (fun w' => w'.cell? ⟨p, 1, none⟩ = some (.slice am T.length cm) ∧ w'.cell? ⟨w.heap.size, 0, none⟩ = some (.string bd) ∧ w'.cell? ⟨w.heap.size, 1, none⟩ = some (.int .i64 fr) ∧ w'.cell? ⟨w.heap.size, 2, none⟩ = some (.int .i64 tt)) (go_keep) (first | (go_at_call 115; refine cF1.mono ?_; rintro e W2 ⟨rfl, hB2'⟩; have hB2 := b_undrew hB2'; clear hB2'; obtain ⟨z0, z1, z2, z3⟩ := HY.out W2 hB2))) | fail
        all_goals
          obtain ⟨D2, q2, b2⟩ := HX.out W2 (on1K HB1.out hB2 (Nat.le_refl _))
          have hX2 : Below W2.heap.size W2 (W2.drew.alloc (.cells #[.string bd, .int .i64 fr, .int .i64 tt] 54)) := b_alloc (b_drew (Below.refl _ W2)) _
          have D3 := D2.on hX2
          have cI := insertT_any D3.hT lo hlo W2.heap.size ⟨bd, fr, tt⟩ (heap_alloc_new W2.drew _) (fun e => by have := (World.ownsRow.lt D2.hT _ e).2; exact absurd this (Nat.lt_irrefl _)) (Nat.le_trans (Nat.le_trans hbw b2.size) hX2.size) (by omega)
          have HB3 : Hid (Below w.heap.size w (W2.drew.alloc (.cells #[.string bd, .int .i64 fr, .int .i64 tt] 54)) ∧ OGv (W2.drew.alloc (.cells #[.string bd, .int .i64 fr, .int .i64 tt] 54)) base p (.slice an N.length cn) (.slice am T.length cm) N T) := ⟨on1K b2 hX2 (Nat.le_refl _), D3⟩
          have hp2 : p < W2.heap.size := D2.pl
          have w0 := cell_old (w := W2.drew) z0
          have w1 := cell_old (w := W2.drew) z1
          have w2 := cell_old (w := W2.drew) z2
          have w3 := cell_old (w := W2.drew) z3
          clear D2 q2 b2 hX2 D3 HX HY cF cF1
          go_wp2
          first | (go_region_law (first | (go_simp; go_at_call 116; refine cI.mono ?_; rintro e W3 ⟨v3, rfl, ho3, hg3⟩; obtain ⟨a3, c3, hv3⟩ := own_slice ho3; subst hv3; have hp3 := HB3.out.2.pT hg3; have t0 : W3.cell? ⟨p, 1, none⟩ = some (.slice am T.length cm) := cell_at hp3 rfl; have g0 : W3.frozen? ⟨p, 1, none⟩ = false := frz_at hp3; have HO := Lib.hid (And.intro ho3 hg3); clear ho3 hg3 hp3))) | fail
          all_goals
            go_wp2
            go_ret
            refine ⟨rfl, fun _ => ?_, (below_row (HB3.out.1.mono hbw) HB3.out.2.hT HO.out.2 (Nat.le_refl _) (Nat.le_trans hbw HB3.out.1.size)).setCell hbp _⟩
            rw [HL.out]
            have e : (T.take lo ++ (⟨bd, fr, tt⟩ : Te) :: T.drop lo).length = lo + (T.length - lo + 1) := by simp; omega
            have hh := (OGv.ties HB3.out.2 HO.out.2 HO.out.1).og
            rw [e] at hh
            exact hh
  · have hE : bindE t T = gErr [] [t] := by unfold bindE; rw [if_neg hz]
    rw [hE]
    rw [errV_ne hz] at cG ⊢
    obtain ⟨z, hzz⟩ : ∃ z, z = gErr [] [t] := ⟨_, rfl⟩
    rw [← hzz] at cG hz ⊢
    clear hE hzz cF zt
    obtain ⟨bd, fr, tt⟩ := t
    simp only at x1 x2 x3 HX cG HBX
    have HZ := Lib.hid hz
    clear hz HT
    go_enter Tryz.func84, Tryz.ntmps84
    go_upto_region 1 with fail
    rw [← hW0]
    clear hW0
    go_wp2_with (first | (go_at_call 41; refine cG.mono ?_; rintro e W1 ⟨rfl, hB1⟩))
    go_ret
    exact ⟨rfl, fun h => absurd h HZ.out, (HX.out W1 (on1K HBX.out hB1 (Nat.le_refl _))).2.2.mono hbw⟩
end Go.Proofs.YtifhigajonafdaaGreat
