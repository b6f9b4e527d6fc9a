/-
  The walk of recordOps.
-/
import Derived.Test.YtidmfdbckpficaaM28
import Derived.Shelf.Spec.SlicesGrow
namespace Go.Proofs.Ytidmfdbckpficaa
open Go.RowKit
set_option linter.unusedVariables false
set_option linter.unusedSimpArgs false

/-- The record of the node of an id. -/
def rcOf (M : List Nd) (id : Int) : List Pr := match nG M id with
  | some m => m.rc
  | none => []
/-- The ops on the record of a node. -/
def ndO (M : List Nd) (n : Nd) : List Opx := if hasN M n = true then prO n.id n.rc (rcOf M n.id) else []
/-- The ops on records. -/
def recO (N M : List Nd) : List Opx := N.flatMap (ndO M)
theorem rcOf_some {M : List Nd} {id : Int} {m : Nd} (h : nG M id = some m) : rcOf M id = m.rc := by unfold rcOf; rw [h]
theorem ndO_yes {M : List Nd} {n : Nd} (h : hasN M n = true) : ndO M n = prO n.id n.rc (rcOf M n.id) := by unfold ndO; rw [if_pos h]
theorem ndO_no {M : List Nd} {n : Nd} (h : hasN M n = false) : ndO M n = [] := by unfold ndO; rw [if_neg (by rw [h]; decide)]
theorem prO_len (id : Int) (A B : List Pr) : (prO id A B).length ≤ A.length + B.length := by
  unfold prO
  rw [List.length_append]
  have := unsL_len id A B
  have := setL_len id A B
  omega
theorem flat_take {α β : Type} {L : List α} {f : α → List β} {k : Nat} {x : α} (h : L[k]? = some x) : (L.take (k + 1)).flatMap f = (L.take k).flatMap f ++ f x := by
  rw [List.take_add_one, h]
  simp
theorem put_eq {K : Act → World → Prop} {a : Act} {d : Option Nat} {v v' : Value} {w : World} (h : v = v') (hk : K (a.put d v') w) : K (a.put d v) w := by rw [h]; exact hk
/-- The boxes of recordOps. -/
abbrev roW (w : World) (vn vt : Value) (b1 b2 : Nat) : World := (w.alloc (.cells #[vn, vt] 25)).alloc (.cells #[.map (some b1), .map (some b2)] 73)
/-- Between two rounds. -/
def RoI (W : World) (N M : List Nd) (v i : Value) (wr : World) : Prop := ∃ (k : Nat) (L : List Opx), k ≤ N.length ∧ i = .int .i64 k ∧ L.length ≤ k * 16 ∧ OwnOs wr W.heap.size v L ∧ L.map Opx.c = (N.take k).flatMap (ndO M) ∧ Below W.heap.size W wr

set_option maxHeartbeats 8000000 in
set_option maxRecDepth 100000 in
theorem recordOps_any {vn vt st : Value} {N M : List Nd} {U : List Te} {w : World} (hN : IsN w vn N) (hv : ∃ a l c, vt = .slice a l c) (hS : IsSt w st M U) (hM : ∀ m ∈ M, IsR w m.rv m.rc) (kN : ∀ n ∈ N, idOk n.id = true) (ln : N.length ≤ 1000) (rn : ∀ n ∈ N, n.rc.length ≤ 8) (rm : ∀ n ∈ M, n.rc.length ≤ 8) :
    Calls Try.prog 35 #[.agg #[vn, vt], st] w (OuPost w (recO N M)) := by
  obtain ⟨b1, b2, hst, h1, h2⟩ := hS
  subst hst
  have HH : Hid (IsN w vn N ∧ (∀ m ∈ M, IsR w m.rv m.rc) ∧ (∀ n ∈ N, idOk n.id = true) ∧ (∀ n ∈ N, n.rc.length ≤ 8) ∧ (∀ n ∈ M, n.rc.length ≤ 8)) := ⟨hN, hM, kN, rn, rm⟩
  have HM12 : Hid (MapN w b1 (nG M) ∧ MapT w b2 (tG U)) := ⟨h1, h2⟩
  obtain ⟨an, cn, hvn, _, _⟩ := hN
  obtain ⟨am, lt, cm, hvt⟩ := hv
  subst hvn hvt
  have HW : Hid (Below w.heap.size w (roW w (.slice an N.length cn) (.slice am lt cm) b1 b2) ∧ (roW w (.slice an N.length cn) (.slice am lt cm) b1 b2).heap[w.heap.size + 1]? = some (.cells #[.map (some b1), .map (some b2)] 73 (0, 0)) ∧ (roW w (.slice an N.length cn) (.slice am lt cm) b1 b2).heap.size = w.heap.size + 2) := by
    refine ⟨b_alloc (b_alloc (Below.refl _ _) _) _, ?_, by simp⟩
    have := heap_alloc_new (w.alloc (.cells #[.slice an N.length cn, .slice am lt cm] 25)) (.cells #[.map (some b1), .map (some b2)] 73)
    rwa [World.size_alloc] at this
  clear h1 h2 hM kN rn rm
  go_enter Try.func35, Try.ntmps35
  go_wp2
  go_loopw [5, 11] (fun v i wr => RoI (roW w (.slice an N.length cn) (.slice am lt cm) b1 b2) N M v i wr) (fun _ i _ => N.length - (intOf i).toNat)
  case atStart => exact ⟨0, [], Nat.zero_le _, rfl, Nat.le_refl _, OwnOs.nil _ _, rfl, Below.refl _ _⟩
  case round =>
    obtain ⟨k, L, hk, rfl, hLk, hO, hm, hB⟩ := hrel
    have HO : Hid (OwnOs wr (roW w (.slice an N.length cn) (.slice am lt cm) b1 b2).heap.size u5 L ∧ L.map Opx.c = (N.take k).flatMap (ndO M)) := ⟨hO, hm⟩
    have HB := Lib.hid hB
    have hsz : w.heap.size + 2 ≤ wr.heap.size := by have := hB.size; rw [HW.out.2.2] at this; exact this
    have HBw : Hid (Below w.heap.size w wr) := on1K HW.out.1 hB (Nat.le_refl _)
    have hn1 : wr.heap[w.heap.size + 1]? = some (.cells #[.map (some b1), .map (some b2)] 73 (0, 0)) := (hB.block _ (by rw [HW.out.2.2]; omega)).trans HW.out.2.1
    by_cases hlt : k < N.length
    · obtain ⟨⟨id, kd, rv, rc⟩, hx⟩ : ∃ x, N[k]? = some x := ⟨N[k], by simp [hlt]⟩
      have hxm := List.mem_of_getElem? hx
      obtain ⟨b, off, c, hv, hb, e0, e1, e2, hr⟩ := HH.out.1.at hx
      injection hv with hv1 hv2 hv3
      subst hv1
      clear hv2 hv3
      obtain ⟨rva, rvl, rvc, hrv⟩ := hr.sl
      simp only at hrv e0 e1 e2
      subst hrv
      have d0 := (HBw.out.cell (p := ⟨b, off + k * 3, none⟩) hb).trans e0
      have d1 := (HBw.out.cell (p := ⟨b, off + k * 3 + 1, none⟩) hb).trans e1
      have d2 := (HBw.out.cell (p := ⟨b, off + k * 3 + 2, none⟩) hb).trans e2
      have hbn : ¬ b = wr.heap.size := by omega
      have hB1 : Below wr.heap.size wr (wr.alloc (.cells #[.int .i64 id, .string kd, .slice rva rvl rvc] 30)) := b_alloc (Below.refl _ _) _
      have hBw1 : Below w.heap.size w (wr.alloc (.cells #[.int .i64 id, .string kd, .slice rva rvl rvc] 30)) := on1K HBw.out hB1 (Nat.le_refl _)
      have hid := HH.out.2.2.1 _ hxm
      have HS : Hid (Below w.heap.size w (wr.alloc (.cells #[.int .i64 id, .string kd, .slice rva rvl rvc] 30)) ∧ Below wr.heap.size wr (wr.alloc (.cells #[.int .i64 id, .string kd, .slice rva rvl rvc] 30))) := ⟨hBw1, hB1⟩
      have hs := hasNode_any (N := M) (T := U) (n := ⟨id, kd, .slice rva rvl rvc, rc⟩) (st := .agg #[.map (some b1), .map (some b2)]) (w := (wr.alloc (.cells #[.int .i64 id, .string kd, .slice rva rvl rvc] 30))) ⟨b1, b2, rfl, HM12.out.1.on hBw1, HM12.out.2.on hBw1⟩ (fun m hm => (HH.out.2.1 m hm).sl) ⟨_, _, _, rfl⟩ hid
      have g0 : (wr.alloc (.cells #[.int .i64 id, .string kd, .slice rva rvl rvc] 30)).cell? ⟨w.heap.size + 1, 0, none⟩ = some (.map (some b1)) := (hB1.cell (by show w.heap.size + 1 < _; omega)).trans (cell_at hn1 rfl)
      have g1 : (wr.alloc (.cells #[.int .i64 id, .string kd, .slice rva rvl rvc] 30)).cell? ⟨w.heap.size + 1, 1, none⟩ = some (.map (some b2)) := (hB1.cell (by show w.heap.size + 1 < _; omega)).trans (cell_at hn1 rfl)
      cases hgx : hasN M ⟨id, kd, .slice rva rvl rvc, rc⟩ with
      | false =>
        have HN : Hid (∀ W2, Below (wr.alloc (.cells #[.int .i64 id, .string kd, .slice rva rvl rvc] 30)).heap.size (wr.alloc (.cells #[.int .i64 id, .string kd, .slice rva rvl rvc] 30)) W2 → RoI (roW w (.slice (some ⟨b, off, none⟩) N.length cn) (.slice am lt cm) b1 b2) N M u5 (.int .i64 ((k : Int) + 1)) W2) := fun W2 hB2 => ⟨k + 1, L, hlt, by simp, by omega, HO.out.1.on (on1K hB1 hB2 (Nat.le_refl _)), by rw [flat_take hx, ndO_no hgx, List.append_nil]; exact HO.out.2, on1K HB.out (on1K hB1 hB2 (Nat.le_refl _)) (Nat.le_refl _)⟩
        rw [hgx] at hs
        clear hgx hx hxm hO hm hB hB1 hBw1 e0 e1 e2 hr hn1
        go_wp2_with (first | (go_at_call 26; refine hs.mono ?_; rintro e W2 ⟨rfl, hB2⟩; have HN2 := Lib.hid (HN.out W2 hB2)))
        go_roundw
        case rel => exact HN2.out
        case measure => simp [intOf]; omega
      | true =>
        obtain ⟨m, hm'⟩ : ∃ m, nG M id = some m := by
          cases h : nG M id with
          | some m => exact ⟨m, rfl⟩
          | none => rw [hasN_none (n := ⟨id, kd, .slice rva rvl rvc, rc⟩) h] at hgx; cases hgx
        have hmM := (nG_mem hm').1
        have hmr := HH.out.2.1 m hmM
        obtain ⟨ma, ml, mc, hmv⟩ := hmr.sl
        have HL : Hid (∀ W2, Below (wr.alloc (.cells #[.int .i64 id, .string kd, .slice rva rvl rvc] 30)).heap.size (wr.alloc (.cells #[.int .i64 id, .string kd, .slice rva rvl rvc] 30)) W2 → (Instr.lookup 70 (.map (some b1)) (.int .i64 id) false).run Try.prog W2 = .ok (.agg #[.int .i64 m.id, .string m.kd, .slice ma ml mc]) W2 ∧ W2.cell? ⟨w.heap.size + 1, 0, none⟩ = some (.map (some b1)) ∧ W2.cell? ⟨wr.heap.size, 0, none⟩ = some (.int .i64 id) ∧ W2.cell? ⟨wr.heap.size, 2, none⟩ = some (.slice rva rvl rvc)) := fun W2 hB2 => by
          have lk := mapN_look (HM12.out.1.on (on1K hBw1 hB2 (Nat.le_refl _))) hid false
          simp only [hm', Option.map_some, Option.getD_some, Nd.one, hmv] at lk
          have n1 := (hB2.block wr.heap.size (by simp)).trans (heap_alloc_new wr (.cells #[.int .i64 id, .string kd, .slice rva rvl rvc] 30))
          exact ⟨lk, (hB2.cell (by show w.heap.size + 1 < _; simp; omega)).trans g0, cell_at n1 rfl, cell_at n1 rfl⟩
        have HP : Hid (∀ W2, Below (wr.alloc (.cells #[.int .i64 id, .string kd, .slice rva rvl rvc] 30)).heap.size (wr.alloc (.cells #[.int .i64 id, .string kd, .slice rva rvl rvc] 30)) W2 → Calls Try.prog 54 #[.int .i64 id, .slice rva rvl rvc, .slice ma ml mc] W2 (OuPost W2 (ndO M ⟨id, kd, .slice rva rvl rvc, rc⟩))) := fun W2 hB2 => by
          rw [ndO_yes hgx, rcOf_some hm']
          have hb2 := on1K hBw1 hB2 (Nat.le_refl _)
          have := propOps_any (id := id) (IsR.on hr hb2) (hmr.on hb2) (by have : rc.length ≤ 8 := HH.out.2.2.2.1 _ hxm; show rc.length ≤ 1000; omega) (by have := HH.out.2.2.2.2 _ hmM; omega)
          rw [hmv] at this
          exact this
        have HA : Hid (∀ (W2 W3 : World) (L3 : List Opx), Below (wr.alloc (.cells #[.int .i64 id, .string kd, .slice rva rvl rvc] 30)).heap.size (wr.alloc (.cells #[.int .i64 id, .string kd, .slice rva rvl rvc] 30)) W2 → Below W2.heap.size W2 W3 → L3.map Opx.c = ndO M ⟨id, kd, .slice rva rvl rvc, rc⟩ → OwnOs W3 (roW w (.slice (some ⟨b, off, none⟩) N.length cn) (.slice am lt cm) b1 b2).heap.size u5 L ∧ L.length + L3.length ≤ 100000 ∧ (roW w (.slice (some ⟨b, off, none⟩) N.length cn) (.slice am lt cm) b1 b2).heap.size ≤ W3.heap.size ∧ (roW w (.slice (some ⟨b, off, none⟩) N.length cn) (.slice am lt cm) b1 b2).heap.size ≤ W2.heap.size ∧ L3.length ≤ 16) := fun W2 W3 L3 hB2 hB3 hm3 => by
          have hb13 := on1K hB1 (on1K hB2 hB3 (Nat.le_refl _)) (Nat.le_refl _)
          have l3 : L3.length ≤ 16 := by
            have := map_len hm3
            rw [ndO_yes hgx, rcOf_some hm'] at this
            have := prO_len id rc m.rc
            have := HH.out.2.2.2.1 _ hxm
            have := HH.out.2.2.2.2 _ hmM
            simp only at *
            omega
          have s1 := HB.out.size
          have s2 := hb13.size
          have s3 := (on1K hB1 hB2 (Nat.le_refl _)).size
          exact ⟨HO.out.1.on hb13, by omega, by omega, by omega, l3⟩
        have HN : Hid (∀ (W2 W3 w5 : World) (v' : Value) (L3 : List Opx), Below (wr.alloc (.cells #[.int .i64 id, .string kd, .slice rva rvl rvc] 30)).heap.size (wr.alloc (.cells #[.int .i64 id, .string kd, .slice rva rvl rvc] 30)) W2 → Below W2.heap.size W2 W3 → L3.map Opx.c = ndO M ⟨id, kd, .slice rva rvl rvc, rc⟩ → OwnOs w5 (roW w (.slice (some ⟨b, off, none⟩) N.length cn) (.slice am lt cm) b1 b2).heap.size v' (L ++ L3) → W3.grownBy w5 u5.ownBlock → RoI (roW w (.slice (some ⟨b, off, none⟩) N.length cn) (.slice am lt cm) b1 b2) N M v' (.int .i64 ((k : Int) + 1)) w5) := fun W2 W3 w5 v' L3 hB2 hB3 hm3 hO5 hg5 => by
          obtain ⟨q1, q2, q3, q4, q5⟩ := HA.out W2 W3 L3 hB2 hB3 hm3
          refine ⟨k + 1, L ++ L3, hlt, by simp, by rw [List.length_append]; omega, hO5, by rw [flat_take hx, List.map_append, hm3, HO.out.2], ?_⟩
          exact below_grown (on1K HB.out (on1K hB1 (on1K hB2 hB3 (Nat.le_refl _)) (Nat.le_refl _)) (Nat.le_refl _)) hg5 q3 (fun q hq => (HO.out.1.1.lt q hq).1)
        rw [hgx] at hs
        clear hgx hx hxm hO hm hB hB1 hBw1 e0 e1 e2 hr hn1 hmr hmM hm'
        go_wp2_with (first | (go_at_call 26; refine hs.mono ?_; rintro e W2 ⟨rfl, hB2⟩; obtain ⟨lk, z0, z1, z2⟩ := HL.out W2 hB2))
        refine put_eq (v' := .slice ma ml mc) rfl ?_
        go_wp2_with (first | (go_at_call 54; refine (HP.out W2 hB2).mono ?_; rintro e W3 ⟨a3, c3, L3, rfl, hO3, hm3, hB3⟩; obtain ⟨q1, q2, q3, q4, q5⟩ := HA.out W2 W3 L3 hB2 hB3 hm3) | (at_builtin; refine wpList_appO rfl (.tmp 18) (.tmp 29) rfl rfl rfl q1 hO3 q2 q3 q4 ?_; intro v5 w5 hown5 hgrow5; have HN5 := Lib.hid (HN.out W2 W3 w5 v5 L3 hB2 hB3 hm3 hown5 hgrow5); clear hown5 hgrow5))
        refine ⟨?_, ?_⟩
        · first | exact HN5.out | ((repeat apply Exists.intro); refine ⟨?_, rfl⟩; exact HN5.out)
        · simp [intOf]
          try omega
    · obtain rfl : k = N.length := by omega
      rw [List.take_length] at HO
      obtain ⟨ao, cp, rfl⟩ := own_slice hO.1
      clear hO hm hlt
      go_wp2
      go_ret
      exact ⟨ao, cp, L, rfl, HO.out.1.base HW.out.1.size, HO.out.2, HBw.out⟩
end Go.Proofs.Ytidmfdbckpficaa

/-
  The walks of slices.Grow and slices.Concat of ops.
-/
namespace Go.Proofs.Ytidmfdbckpficaa
open Go.RowKit Go.Shelf
set_option linter.unusedVariables false
set_option linter.unusedSimpArgs false

def growRenO : Go.Shelf.Ren := ⟨fun | 4 => 53 | n => n, fun | 22 => 26 | 25 => 42 | n => n, fun | n => n⟩
theorem growLaysO : Go.Proofs.Lays8.n4 Try.prog growRenO := {
  mixed := by kernel_rfl
  f4 := ⟨ "slices.Grow[[]kinshape/api.Op,kinshape/api.Op]", by decide, Try.func53.trans (congrArg some (by kernel_rfl))⟩
  t0 := Try.underlying0
  a0 := Try.isAgg0
  z0 := Try.sizeOf0
  v0 := Try.zeroValue0
  t3 := Try.underlying3
  a3 := Try.isAgg3
  z3 := Try.sizeOf3
  v3 := Try.zeroValue3
  t4 := Try.underlying4
  a4 := Try.isAgg4
  z4 := Try.sizeOf4
  v4 := Try.zeroValue4
  t9 := Try.underlying9
  a9 := Try.isAgg9
  z9 := Try.sizeOf9
  v9 := Try.zeroValue9
  t20 := Try.underlying20
  a20 := Try.isAgg20
  z20 := Try.sizeOf20
  v20 := Try.zeroValue20
  t22 := Try.underlying26
  a22 := Try.isAgg26
  z22 := Try.sizeOf26
  v22 := Try.zeroValue26 }

set_option maxHeartbeats 1000000 in
theorem growO_zero (w : World) :
    Calls Try.prog 53 #[.slice none 0 0, .int .i64 0] w fun e w' => e = .returned (.slice none 0 0) ∧ w' = w := by
  go_enter Try.func53, Try.ntmps53
  go_wp2
  go_ret
  exact ⟨rfl, rfl⟩
theorem growO_any (n : Nat) (hn : n ≤ 50000) (w : World) :
    Calls Try.prog 53 #[.slice none 0 0, .int .i64 n] w fun e w' => ∃ v, e = .returned v ∧ w'.ownsRow w.heap.size 42 11 v 0 [] ∧ Below w.heap.size w w' := by
  obtain ⟨i0, hi0, hz0, hz1, hz2⟩ := info_parts infoO
  by_cases h0 : n = 0
  · subst h0
    refine (growO_zero w).mono ?_
    rintro e w' ⟨rfl, rfl⟩
    exact ⟨_, rfl, World.ownsRow_nil _ _ _ _, Below.refl _ _⟩
  · refine (Any8.slices_Grow_grow growLaysO i0 _ hi0 hz0 (by omega) none 0 0 n [] w (Nat.le_refl _) (by omega) (by rw [hz2]; omega) (by omega) (by simp) (fun _ => rfl) (fun a ha => by cases ha)).mono ?_
    rintro e w' ⟨rfl, rfl⟩
    have hge := grownCap_ge w (0 + n) 0 42
    have hcm := grownCap_le_maxLen w (0 + n) 0 42 (by unfold maxLen; omega)
    refine ⟨_, rfl, World.ownsRow_made (w := w.drew) _ _ (Nat.le_refl _) hcm ?_, b_alloc (Below.refl _ _).drew _⟩
    simp only [Array.size_append, List.size_toArray, List.length_nil, size_zeroCells]
    show 0 + (0 + n - 0) * 11 + (grownCap w (0 + n) 0 42 - (0 + n)) * 11 = grownCap w (0 + n) 0 42 * 11
    omega
theorem run_appQ {w : World} {base base2 B : Nat} {u1 u2 : Value} {l1 l2 : List Opx} (h1 : w.ownsRow base 42 11 u1 l1.length (cellsO l1)) (r1 : ∀ o ∈ l1, OwnRc w B o.nd.rv o.nd.rc) (h2 : w.ownsRow base2 42 11 u2 l2.length (cellsO l2)) (r2 : ∀ o ∈ l2, OwnRc w B o.nd.rv o.nd.rc) (hl : l1.length + l2.length ≤ 100000) (hb : base ≤ w.heap.size) (ty : TypeId) :
    ∃ v' w', (Builtin.append_ #[26, 26] ty #[u1, u2]).run Try.prog w = .ok v' w' ∧ (w'.ownsRow base 42 11 v' (l1 ++ l2).length (cellsO (l1 ++ l2)) ∧ (∀ o ∈ l1 ++ l2, OwnRc w' B o.nd.rv o.nd.rc) ∧ w.grownBy w' u1.ownBlock) := by
  obtain ⟨i0, hi0, hz0, hz1, hz2⟩ := info_parts infoO
  rcases h2.2 with ⟨rfl, hn⟩ | ⟨g, cap, cur, rfl, hbb', hg, rest⟩
  · have e : l2 = [] := List.eq_nil_of_length_eq_zero hn
    subst e
    refine ⟨u1, w, run_append_owned_none w base 26 ty 42 i0 11 Try.underlying26 hi0 u1 _ _ h1, by rw [List.append_nil]; exact h1, by rw [List.append_nil]; exact r1, ⟨rfl, rfl, rfl, Nat.le_refl _, fun _ _ _ => rfl⟩⟩
  · obtain ⟨v', w', e1, e2, e3, _⟩ := run_append_own (P := Try.prog) w base 26 ty 42 i0 _ 11 136 Try.underlying26 hi0 hz0 hz1 hz2 rfl (by decide) u1 l1.length (cellsO l1) h1 ⟨g, 0, none⟩ l2.length cap (cellsO l2) (cellsO_len l2) (World.ownsRow.cells h2 rfl) (cellsO_one r2) (by unfold maxLen; omega) (by omega) hb
    have k5 : Kt 38 w w' := Kt.of_own h1 (by decide) e3
    refine ⟨v', w', e1, by rw [cellsO_app, List.length_append]; exact e2, fun o ho => ?_, e3⟩
    rcases List.mem_append.1 ho with ho | ho
    · exact (r1 o ho).kt k5
    · exact (r2 o ho).kt k5

/-- Rows of ops whose slices lie in a block. -/
def Rows5 (w : World) (B bs : Nat) (Vs : List (Value × List Opx)) : Prop := ∀ k v L, Vs[k]? = some (v, L) → w.cell? ⟨bs, k, none⟩ = some v ∧ OwnOs w B v L
def catL (Vs : List (Value × List Opx)) : List Opx := Vs.flatMap fun x => x.2
/-- Between two rounds of the first loop. -/
def K1 (w : World) (Vs : List (Value × List Opx)) (s i : Value) (wr : World) : Prop := ∃ k : Nat, k ≤ Vs.length ∧ i = .int .i64 k ∧ s = .int .i64 (catL (Vs.take k)).length ∧ wr = w
/-- Of the second. -/
def K2 (w : World) (B : Nat) (Vs : List (Value × List Opx)) (v i : Value) (wr : World) : Prop := ∃ k : Nat, k ≤ Vs.length ∧ i = .int .i64 k ∧ wr.ownsRow w.heap.size 42 11 v (catL (Vs.take k)).length (cellsO (catL (Vs.take k))) ∧ (∀ o ∈ catL (Vs.take k), OwnRc wr B o.nd.rv o.nd.rc) ∧ Below w.heap.size w wr
theorem cat_take {Vs : List (Value × List Opx)} {k : Nat} {v : Value} {L : List Opx} (h : Vs[k]? = some (v, L)) : catL (Vs.take (k + 1)) = catL (Vs.take k) ++ L := flat_take h
theorem cat_len (Vs : List (Value × List Opx)) (k : Nat) : (catL (Vs.take k)).length ≤ (catL Vs).length := by
  have : catL Vs = catL (Vs.take k) ++ catL (Vs.drop k) := by
    unfold catL
    rw [← List.flatMap_append, List.take_append_drop]
  rw [this, List.length_append]
  omega

set_option maxHeartbeats 4000000 in
set_option maxRecDepth 100000 in
theorem concatO (bs B m : Nat) (Vs : List (Value × List Opx)) (w : World) (hm : Vs.length = m) (hbs : bs < w.heap.size) (hR : Rows5 w B bs Vs) (hl : (catL Vs).length ≤ 50000) (h5 : m ≤ 100) (hBw : B ≤ w.heap.size) :
    Calls Try.prog 29 #[.slice (some ⟨bs, 0, none⟩) m m] w fun e w' => ∃ v, e = .returned v ∧ OwnOs w' B v (catL Vs) ∧ Below w.heap.size w w' := by
  have HR := Lib.hid hR
  clear hR
  go_enter Try.func29, Try.ntmps29
  go_wp2
  go_loopw [3, 11] (fun s i wr => K1 w Vs s i wr) (fun _ i _ => m - (intOf i).toNat)
  case atStart => exact ⟨0, Nat.zero_le _, rfl, rfl, rfl⟩
  case round =>
    obtain ⟨k, hk, rfl, rfl, hw⟩ := hrel
    have hw' := hw.symm
    subst hw'
    have hlk := cat_len Vs k
    by_cases hlt : k < m
    · obtain ⟨⟨v, L⟩, hx⟩ : ∃ x, Vs[k]? = some x := ⟨Vs[k], by simp [hm, hlt]⟩
      obtain ⟨c0, hO⟩ := HR.out k v L hx
      obtain ⟨ao, cp, rfl⟩ := own_slice hO.1
      have hlk1 := cat_len Vs (k + 1)
      have e1 : ((catL (Vs.take (k + 1))).length : Int) = ((catL (Vs.take k)).length : Int) + (L.length : Int) := by rw [cat_take hx, List.length_append]; simp
      have R' : Hid (K1 w Vs (.int .i64 (((catL (Vs.take k)).length : Int) + (L.length : Int))) (.int .i64 ((k : Int) + 1)) w) := ⟨k + 1, by omega, by simp, by rw [e1], rfl⟩
      have hkm : (k : Int) < (m : Int) := by omega
      generalize (catL (Vs.take k)).length = s at *
      have hw1 : IntKind.i64.wrap ((s : Int) + (L.length : Int)) = (s : Int) + (L.length : Int) := by rw [IntKind.wrap_i64]; omega
      have hneg : ¬ ((s : Int) + (L.length : Int) < 0) := by omega
      clear hO hx e1
      go_wp2
      refine ⟨?_, ?_⟩
      · first
          | exact R'.out
          | ((repeat apply Exists.intro)
             refine ⟨?_, rfl⟩
             exact R'.out)
      · simp [intOf]
        omega
    · obtain rfl : k = m := by omega
      have ht : Vs.take k = Vs := by rw [← hm]; exact List.take_length
      rw [ht]
      have hcg := growO_any (catL Vs).length hl w
      go_wp2_with (go_at_call 53; refine hcg.mono ?_; rintro e W1 ⟨v1, rfl, hown, hB1⟩)
      go_loopw [6, 27] (fun v i wr2 => K2 w B Vs v i wr2) (fun _ i _ => k - (intOf i).toNat)
      case atStart => exact ⟨0, Nat.zero_le _, rfl, hown, fun o ho => by simp [catL] at ho, hB1⟩
      case round =>
        obtain ⟨j, hj, rfl, hown, hrec, hB⟩ := hrel
        have hlj := cat_len Vs j
        have hbase := hB.size
        by_cases hlt2 : j < k
        · obtain ⟨⟨v, L⟩, hx⟩ : ∃ x, Vs[j]? = some x := ⟨Vs[j], by simp [hm, hlt2]⟩
          obtain ⟨c0, hO⟩ := HR.out j v L hx
          obtain ⟨ao, cp, rfl⟩ := own_slice hO.1
          have d0 := (hB.cell (p := ⟨bs, j, none⟩) hbs).trans c0
          have hlj1 := cat_len Vs (j + 1)
          rw [cat_take hx, List.length_append] at hlj1
          have hOr := hO.kt (w' := wr) (.of_below hB) (.of_below hB)
          have hr := fun ty => run_appQ hown hrec hOr.1 hOr.2 (by omega) hbase ty
          have HN : Hid (∀ v' w', w'.ownsRow w.heap.size 42 11 v' (catL (Vs.take j) ++ L).length (cellsO (catL (Vs.take j) ++ L)) → (∀ o ∈ catL (Vs.take j) ++ L, OwnRc w' B o.nd.rv o.nd.rc) → wr.grownBy w' u6.ownBlock → K2 w B Vs v' (.int .i64 ((j : Int) + 1)) w') := fun v' w' p1 p2 p3 => ⟨j + 1, by omega, by simp, by rw [cat_take hx]; exact p1, by rw [cat_take hx]; exact p2, below_grown hB p3 hbase (fun q hq => (hown.lt q hq).1)⟩
          have hkm : (j : Int) < (k : Int) := by omega
          clear hown hrec hO hOr hx c0
          go_wp2_with (at_builtin; refine wpList_append_E rfl _ _ 26 rfl _ _ rfl rfl (hr _) ?_; rintro v5 w5 ⟨p1, p2, p3⟩; have HN5 := Lib.hid (HN.out v5 w5 p1 p2 p3); clear p1 p2 p3)
          refine ⟨?_, ?_⟩
          · first
              | exact HN5.out
              | ((repeat apply Exists.intro)
                 refine ⟨?_, rfl⟩
                 exact HN5.out)
          · simp [intOf]
            omega
        · obtain rfl : j = k := by omega
          rw [ht] at hown hrec
          have HF : Hid (OwnOs wr B u6 (catL Vs)) := ⟨own_base hown hBw, hrec⟩
          clear hown hrec
          go_wp2
          go_ret
          exact ⟨_, rfl, HF.out, hB⟩
end Go.Proofs.Ytidmfdbckpficaa
