/-
  The walks of text.parseNode, text.parseTie and of text.withOne at nodes and at ties.
-/
import Derived.Test.YteabdlandbmdaaaGreatDoorM12
import Derived.Test.YteabdlandbmdaaaGreatDoorM14
import Derived.Test.YteabdlandbmdaaaGreatDoorM09
import Derived.Laws.AppendOwn
namespace Go.Proofs.YteabdlandbmdaaaGreatDoor
open Go.RowKit
set_option linter.unusedVariables false
set_option linter.unusedSimpArgs false

theorem rp_yes {l : Nm} {M : List Pr} (w : World) (hl : l.length ≤ 140737488355328) (h1 : readR l = some M) (h2 : rErr M = 0) :
    Calls Tryz.prog 38 #[.string (bs l)] w fun e w' => ∃ ao cp, e = .returned (.tuple #[.slice ao M.length cp, .nilIface]) ∧ OwnRc w' w.heap.size (.slice ao M.length cp) M ∧ Below w.heap.size w w' := by
  refine (rparse_any (bs l) w (by rw [bs_size]; exact hl)).mono ?_
  rintro e w' ⟨hB, h, _⟩
  rw [bs_data] at h
  obtain ⟨ao, cp, rfl, ho⟩ := h M h1 h2
  exact ⟨ao, cp, rfl, ho, hB⟩
theorem rp_no {l : Nm} (w : World) (hl : l.length ≤ 140737488355328) (h : ∀ M, readR l = some M → ¬ rErr M = 0) :
    Calls Tryz.prog 38 #[.string (bs l)] w fun e w' => ∃ ee : Int, e = .returned (.tuple #[.slice none 0 0, .iface 49 (.int .i64 ee)]) ∧ Below w.heap.size w w' := by
  refine (rparse_any (bs l) w (by rw [bs_size]; exact hl)).mono ?_
  rintro e w' ⟨hB, _, h2⟩
  rw [bs_data] at h2
  obtain ⟨ee, _, rfl⟩ := h2 (by
    cases hr : readR l with
    | none => exact .inl rfl
    | some M => exact .inr ⟨M, rfl, h M hr⟩)
  exact ⟨ee, rfl, hB⟩
theorem kept3 {w W1 : World} {v0 v1 v2 : Value} {t : TypeId} (hB : Below (w.alloc (.cells #[v0, v1, v2] t)).heap.size (w.alloc (.cells #[v0, v1, v2] t)) W1) :
    w.heap.size < W1.heap.size ∧ (W1.cell? ⟨w.heap.size, 0, none⟩ = some v0 ∧ W1.cell? ⟨w.heap.size, 1, none⟩ = some v1 ∧ W1.cell? ⟨w.heap.size, 2, none⟩ = some v2) ∧
      (W1.frozen? ⟨w.heap.size, 0, none⟩ = false ∧ W1.frozen? ⟨w.heap.size, 1, none⟩ = false ∧ W1.frozen? ⟨w.heap.size, 2, none⟩ = false) := by
  have hb := (hB.block w.heap.size (by simp)).trans (heap_alloc_new w _)
  exact ⟨Nat.lt_of_lt_of_le (by simp) hB.size, ⟨cellB hb rfl, cellB hb rfl, cellB hb rfl⟩, frzB hb, frzB hb, frzB hb⟩
theorem set3b {w W : World} (hB : Below w.heap.size w W) (a b c : Value) : Below w.heap.size w (((W.setCell ⟨w.heap.size, 0, none⟩ a).setCell ⟨w.heap.size, 1, none⟩ b).setCell ⟨w.heap.size, 2, none⟩ c) :=
  ((hB.setCell (by simp) _).setCell (by simp) _).setCell (by simp) _

theorem own_np3 {w W1 W2 : World} {o : Obj} {v : Value} {M : List Pr} {a b c : Value} (hO : OwnRc W2 W1.heap.size v M) (hB1 : Below (w.alloc o).heap.size (w.alloc o) W1) :
    OwnRc (((W2.setCell ⟨w.heap.size, 0, none⟩ a).setCell ⟨w.heap.size, 1, none⟩ b).setCell ⟨w.heap.size, 2, none⟩ c).drew w.heap.size v M := by
  have hz : w.heap.size < W1.heap.size := Nat.lt_of_lt_of_le (by simp) hB1.size
  have := own_al1 (w0 := ((W2.setCell ⟨w.heap.size, 0, none⟩ a).setCell ⟨w.heap.size, 1, none⟩ b).setCell ⟨w.heap.size, 2, none⟩ c) hO (fun k h1 h2 => by
    rw [heap_setCell_other _ _ _ _ (by simp; omega), heap_setCell_other _ _ _ _ (by simp; omega), heap_setCell_other _ _ _ _ (by simp; omega)])
  exact own_base this (Nat.le_of_lt hz)
def NdPost (b c d : Nm) (w : World) (e : Ending) (w' : World) : Prop :=
  ∃ (n : Nd) (ok : Bool), e = .returned (.tuple #[n.one, .bool ok]) ∧ OwnRc w' w.heap.size n.rv n.rc ∧ Below w.heap.size w w' ∧ ndO b c d = (if ok = true then some n.c else none)
set_option maxHeartbeats 4000000 in
set_option maxRecDepth 100000 in
theorem parseNode_any (b c d : Nm) (w : World) (hb : b.length ≤ 140737488355328) (hd : d.length ≤ 140737488355328) (hE : EV w) :
    Calls Tryz.prog 21 #[.string (bs b), .string (bs c), .string (bs d)] w (NdPost b c d w) := by
  have hB0 : Below w.heap.size w (w.alloc (.cells #[.int .i64 0, .string ⟨#[]⟩, .slice none 0 0] 37)) := b_alloc (Below.refl _ _) _
  have c1 := number_any b _ (by omega) (hE.on hB0)
  have hce : ((bs c).toList == []) = (decide (c = [])) := by rw [bs_toList]; cases c <;> rfl
  have hne : ∀ x : Nm, x ≠ [] → ((bs x).toList.isEmpty) = false := fun x hx => by rw [bs_toList]; cases x with
    | nil => exact absurd rfl hx
    | cons _ _ => rfl
  unfold numV at c1
  by_cases hr : ∃ M, readR d = some M ∧ rErr M = 0
  · obtain ⟨M, hr1, hr2⟩ := hr
    have c2 := fun W => rp_yes W hd hr1 hr2
    have HQ : Hid (ndO b c d = (if (numN b).isSome = true ∧ c ≠ [] then some ⟨(numN b).getD 0, bs c, .nilIface, M⟩ else none)) := by
      show _ = _
      unfold ndO
      rw [hr1]
      cases hn : numN b with
      | none => simp
      | some v =>
        simp only [Option.isSome_some, Option.getD_some, true_and]
        by_cases hc : c = []
        · rw [if_neg (by simp [hc]), if_neg (by simp [hc])]
        · rw [if_pos ⟨hc, hr2⟩, if_pos hc]
    clear hr1 hr2
    generalize (numN b).getD 0 = nv at c1 HQ
    generalize (numN b).isSome = nb at c1 HQ
    have hcases : nb = false ∨ (nb = true ∧ c = []) ∨ (nb = true ∧ c ≠ []) := by
      cases nb
      · exact .inl rfl
      · by_cases hc : c = []
        · exact .inr (.inl ⟨rfl, hc⟩)
        · exact .inr (.inr ⟨rfl, hc⟩)
    rcases hcases with rfl | ⟨rfl, rfl⟩ | ⟨rfl, hc⟩
    · have HN : Hid (ndO b c d = none) := by show _ = _; rw [HQ.out, if_neg (by simp)]
      clear HQ
      go_enter Tryz.func21, Tryz.ntmps21
      go_wp2_with (first | (go_at_call 37; refine c1.mono ?_; rintro e W1 ⟨rfl, hB1⟩; refine Hid.out ?_))
      refine Lib.hid ?_
      go_wp2_with (first | (go_at_call 38; refine (c2 _).mono ?_; rintro e W2 ⟨ao, cp, rfl, hO, hB2⟩; refine Hid.out ?_))
      refine Lib.hid ?_
      obtain ⟨hz, ⟨g0, g1, g2⟩, k0, k1, k2⟩ := kept3 (on1 hB1 hB2)
      clear c1 c2
      go_upto_region 3 with fail
      first | (go_region_held (fun _ => True) (go_keep) (first | fail)) | fail
      all_goals
        go_wp2
        refine bodyPost_ret (v := .tuple #[.agg #[.int .i64 nv, .string (bs c), .slice ao M.length cp], .bool false]) (by simp [results, Tryz.results21, go_sem, g0, g1, g2, hz]) rfl ?_
        exact ⟨⟨nv, bs c, .slice ao M.length cp, M⟩, false, rfl, own_np3 hO hB1, b_drew (set3b (on1 (below_one hB1) hB2) _ _ _), HN.out⟩
    · have HN : Hid (ndO b [] d = none) := by show _ = _; rw [HQ.out, if_neg (by simp)]
      clear HQ
      go_enter Tryz.func21, Tryz.ntmps21
      go_wp2_with (first | (go_at_call 37; refine c1.mono ?_; rintro e W1 ⟨rfl, hB1⟩; refine Hid.out ?_))
      refine Lib.hid ?_
      go_wp2_with (first | (go_at_call 38; refine (c2 _).mono ?_; rintro e W2 ⟨ao, cp, rfl, hO, hB2⟩; refine Hid.out ?_))
      refine Lib.hid ?_
      obtain ⟨hz, ⟨g0, g1, g2⟩, k0, k1, k2⟩ := kept3 (on1 hB1 hB2)
      clear c1 c2
      go_upto_region 3 with fail
      first | (go_region_held (fun _ => True) (go_keep) (first | fail)) | fail
      all_goals
        go_wp2
        refine bodyPost_ret (v := .tuple #[.agg #[.int .i64 nv, .string (bs []), .slice ao M.length cp], .bool false]) (by simp [results, Tryz.results21, go_sem, g0, g1, g2, hz]) rfl ?_
        exact ⟨⟨nv, bs [], .slice ao M.length cp, M⟩, false, rfl, own_np3 hO hB1, b_drew (set3b (on1 (below_one hB1) hB2) _ _ _), HN.out⟩
    · have HN : Hid (ndO b c d = some ⟨nv, bs c, .nilIface, M⟩) := by show _ = _; rw [HQ.out, if_pos ⟨rfl, hc⟩]
      clear HQ
      have hcl : c.isEmpty = false := by cases c with
        | nil => exact absurd rfl hc
        | cons _ _ => rfl
      go_enter Tryz.func21, Tryz.ntmps21
      go_wp2_with (first | (go_at_call 37; refine c1.mono ?_; rintro e W1 ⟨rfl, hB1⟩; refine Hid.out ?_))
      refine Lib.hid ?_
      go_wp2_with (first | (go_at_call 38; refine (c2 _).mono ?_; rintro e W2 ⟨ao, cp, rfl, hO, hB2⟩; refine Hid.out ?_))
      refine Lib.hid ?_
      obtain ⟨hz, ⟨g0, g1, g2⟩, k0, k1, k2⟩ := kept3 (on1 hB1 hB2)
      clear c1 c2
      go_upto_region 3 with fail
      first | (go_region_held (fun _ => True) (go_keep) (first | fail)) | fail
      all_goals
        go_wp2
        refine bodyPost_ret (v := .tuple #[.agg #[.int .i64 nv, .string (bs c), .slice ao M.length cp], .bool true]) (by simp [results, Tryz.results21, go_sem, g0, g1, g2, hz, hcl]) rfl ?_
        exact ⟨⟨nv, bs c, .slice ao M.length cp, M⟩, true, rfl, own_np3 hO hB1, b_drew (set3b (on1 (below_one hB1) hB2) _ _ _), HN.out⟩
  · have c2 := fun W => rp_no W hd (fun M h1 h2 => hr ⟨M, h1, h2⟩)
    have HN : Hid (ndO b c d = none) := by
      show _ = _
      unfold ndO
      cases hn : numN b with
      | none => cases readR d <;> rfl
      | some v =>
        cases hM : readR d with
        | none => rfl
        | some M =>
          simp only
          rw [if_neg (fun h => hr ⟨M, hM, h.2⟩)]
    clear hr
    generalize (numN b).getD 0 = nv at c1
    generalize (numN b).isSome = nb at c1
    have hcases : nb = false ∨ (nb = true ∧ c = []) ∨ (nb = true ∧ c ≠ []) := by
      cases nb
      · exact .inl rfl
      · by_cases hc : c = []
        · exact .inr (.inl ⟨rfl, hc⟩)
        · exact .inr (.inr ⟨rfl, hc⟩)
    rcases hcases with rfl | ⟨rfl, rfl⟩ | ⟨rfl, hc⟩
    · skip
      go_enter Tryz.func21, Tryz.ntmps21
      go_wp2_with (first | (go_at_call 37; refine c1.mono ?_; rintro e W1 ⟨rfl, hB1⟩; refine Hid.out ?_))
      refine Lib.hid ?_
      go_wp2_with (first | (go_at_call 38; refine (c2 _).mono ?_; rintro e W2 ⟨ee, rfl, hB2⟩; refine Hid.out ?_))
      refine Lib.hid ?_
      obtain ⟨hz, ⟨g0, g1, g2⟩, k0, k1, k2⟩ := kept3 (on1 hB1 hB2)
      clear c1 c2
      go_upto_region 3 with fail
      first | (go_region_held (fun _ => True) (go_keep) (first | fail)) | fail
      all_goals
        go_wp2
        refine bodyPost_ret (v := .tuple #[.agg #[.int .i64 nv, .string (bs c), .slice none 0 0], .bool false]) (by simp [results, Tryz.results21, go_sem, g0, g1, g2, hz]) rfl ?_
        exact ⟨⟨nv, bs c, .slice none 0 0, []⟩, false, rfl, World.ownsRow_nil _ _ _ _, b_drew (set3b (on1 (below_one hB1) hB2) _ _ _), HN.out⟩
    · skip
      go_enter Tryz.func21, Tryz.ntmps21
      go_wp2_with (first | (go_at_call 37; refine c1.mono ?_; rintro e W1 ⟨rfl, hB1⟩; refine Hid.out ?_))
      refine Lib.hid ?_
      go_wp2_with (first | (go_at_call 38; refine (c2 _).mono ?_; rintro e W2 ⟨ee, rfl, hB2⟩; refine Hid.out ?_))
      refine Lib.hid ?_
      obtain ⟨hz, ⟨g0, g1, g2⟩, k0, k1, k2⟩ := kept3 (on1 hB1 hB2)
      clear c1 c2
      go_upto_region 3 with fail
      first | (go_region_held (fun _ => True) (go_keep) (first | fail)) | fail
      all_goals
        go_wp2
        refine bodyPost_ret (v := .tuple #[.agg #[.int .i64 nv, .string (bs []), .slice none 0 0], .bool false]) (by simp [results, Tryz.results21, go_sem, g0, g1, g2, hz]) rfl ?_
        exact ⟨⟨nv, bs [], .slice none 0 0, []⟩, false, rfl, World.ownsRow_nil _ _ _ _, b_drew (set3b (on1 (below_one hB1) hB2) _ _ _), HN.out⟩
    · have hcl : c.isEmpty = false := by cases c with
        | nil => exact absurd rfl hc
        | cons _ _ => rfl
      go_enter Tryz.func21, Tryz.ntmps21
      go_wp2_with (first | (go_at_call 37; refine c1.mono ?_; rintro e W1 ⟨rfl, hB1⟩; refine Hid.out ?_))
      refine Lib.hid ?_
      go_wp2_with (first | (go_at_call 38; refine (c2 _).mono ?_; rintro e W2 ⟨ee, rfl, hB2⟩; refine Hid.out ?_))
      refine Lib.hid ?_
      obtain ⟨hz, ⟨g0, g1, g2⟩, k0, k1, k2⟩ := kept3 (on1 hB1 hB2)
      clear c1 c2
      go_upto_region 3 with fail
      first | (go_region_held (fun _ => True) (go_keep) (first | fail)) | fail
      all_goals
        go_wp2
        refine bodyPost_ret (v := .tuple #[.agg #[.int .i64 nv, .string (bs c), .slice none 0 0], .bool false]) (by simp [results, Tryz.results21, go_sem, g0, g1, g2, hz, hcl]) rfl ?_
        exact ⟨⟨nv, bs c, .slice none 0 0, []⟩, false, rfl, World.ownsRow_nil _ _ _ _, b_drew (set3b (on1 (below_one hB1) hB2) _ _ _), HN.out⟩
end Go.Proofs.YteabdlandbmdaaaGreatDoor

/-
  The walk of text.parseTie.
-/
namespace Go.Proofs.YteabdlandbmdaaaGreatDoor
open Go.RowKit
set_option linter.unusedVariables false
set_option linter.unusedSimpArgs false

def TePost (a b c : Nm) (w : World) (e : Ending) (w' : World) : Prop :=
  ∃ (t : Te) (ok : Bool), e = .returned (.tuple #[t.one, .bool ok]) ∧ Below w.heap.size w w' ∧ teO a b c = (if ok = true then some t else none)
set_option maxHeartbeats 4000000 in
set_option maxRecDepth 100000 in
theorem parseTie_any (a b c : Nm) (w : World) (hb : b.length ≤ 140737488355328) (hc : c.length ≤ 140737488355328) (hE : EV w) :
    Calls Tryz.prog 23 #[.string (bs a), .string (bs b), .string (bs c)] w (TePost a b c w) := by
  have hB0 : Below w.heap.size w (w.alloc (.cells #[.string ⟨#[]⟩, .int .i64 0, .int .i64 0] 61)) := b_alloc (Below.refl _ _) _
  have c1 := number_any b _ (by omega) (hE.on hB0)
  have c2 := fun W (hB : Below w.heap.size w W) => number_any c W (by omega) (hE.on hB)
  unfold numV at c1 c2
  have HQ : Hid (teO a b c = (if ((numN b).isSome = true ∧ (numN c).isSome = true) ∧ a ≠ [] then some ⟨bs a, (numN b).getD 0, (numN c).getD 0⟩ else none)) := by
    show _ = _
    unfold teO
    cases numN b with
    | none => simp
    | some v =>
      cases numN c with
      | none => simp
      | some u =>
        simp only [Option.isSome_some, Option.getD_some, true_and, and_self]
  generalize (numN b).getD 0 = nv at c1 HQ
  generalize (numN b).isSome = nb at c1 HQ
  generalize (numN c).getD 0 = mv at c2 HQ
  generalize (numN c).isSome = mb at c2 HQ
  by_cases ha : a = []
  · subst ha
    have HN : Hid (teO [] b c = none) := by show _ = _; rw [HQ.out, if_neg (by simp)]
    clear HQ
    cases nb <;> cases mb
    all_goals
      go_enter Tryz.func23, Tryz.ntmps23
      go_wp2_with (first | (have hq1 := hB1; go_at_call 37; refine (c2 W1 (on1 hB0 hB1)).mono ?_; rintro e W2 ⟨rfl, hB2⟩; refine Hid.out ?_) | (go_at_call 37; refine c1.mono ?_; rintro e W1 ⟨rfl, hB1⟩))
      refine Lib.hid ?_
      obtain ⟨hz, ⟨g0, g1, g2⟩, k0, k1, k2⟩ := kept3 (on1 hB1 hB2)
      clear c1 c2
      all_goals
        go_wp2
        refine bodyPost_ret (v := .tuple #[.agg #[.string (bs []), .int .i64 nv, .int .i64 mv], .bool false]) (by simp [results, Tryz.results23, go_sem, g0, g1, g2, hz]) rfl ?_
        exact ⟨⟨bs [], nv, mv⟩, false, rfl, set3b (on1 (below_one hB1) hB2) _ _ _, HN.out⟩
  · have hcl : a.isEmpty = false := by cases a with
      | nil => exact absurd rfl ha
      | cons _ _ => rfl
    cases nb
    · have HN : Hid (teO a b c = none) := by show _ = _; rw [HQ.out, if_neg (by simp)]
      clear HQ
      go_enter Tryz.func23, Tryz.ntmps23
      go_wp2_with (first | (have hq1 := hB1; go_at_call 37; refine (c2 W1 (on1 hB0 hB1)).mono ?_; rintro e W2 ⟨rfl, hB2⟩; refine Hid.out ?_) | (go_at_call 37; refine c1.mono ?_; rintro e W1 ⟨rfl, hB1⟩))
      refine Lib.hid ?_
      obtain ⟨hz, ⟨g0, g1, g2⟩, k0, k1, k2⟩ := kept3 (on1 hB1 hB2)
      clear c1 c2
      all_goals
        go_wp2
        refine bodyPost_ret (v := .tuple #[.agg #[.string (bs a), .int .i64 nv, .int .i64 mv], .bool false]) (by simp [results, Tryz.results23, go_sem, g0, g1, g2, hz, hcl]) rfl ?_
        exact ⟨⟨bs a, nv, mv⟩, false, rfl, set3b (on1 (below_one hB1) hB2) _ _ _, HN.out⟩
    · cases mb
      · have HN : Hid (teO a b c = none) := by show _ = _; rw [HQ.out, if_neg (by simp)]
        clear HQ
        go_enter Tryz.func23, Tryz.ntmps23
        go_wp2_with (first | (have hq1 := hB1; go_at_call 37; refine (c2 W1 (on1 hB0 hB1)).mono ?_; rintro e W2 ⟨rfl, hB2⟩; refine Hid.out ?_) | (go_at_call 37; refine c1.mono ?_; rintro e W1 ⟨rfl, hB1⟩))
        refine Lib.hid ?_
        obtain ⟨hz, ⟨g0, g1, g2⟩, k0, k1, k2⟩ := kept3 (on1 hB1 hB2)
        clear c1 c2
        all_goals
          go_wp2
          refine bodyPost_ret (v := .tuple #[.agg #[.string (bs a), .int .i64 nv, .int .i64 mv], .bool false]) (by simp [results, Tryz.results23, go_sem, g0, g1, g2, hz, hcl]) rfl ?_
          exact ⟨⟨bs a, nv, mv⟩, false, rfl, set3b (on1 (below_one hB1) hB2) _ _ _, HN.out⟩
      · have HN : Hid (teO a b c = some ⟨bs a, nv, mv⟩) := by show _ = _; rw [HQ.out, if_pos ⟨⟨rfl, rfl⟩, ha⟩]
        clear HQ
        go_enter Tryz.func23, Tryz.ntmps23
        go_wp2_with (first | (have hq1 := hB1; go_at_call 37; refine (c2 W1 (on1 hB0 hB1)).mono ?_; rintro e W2 ⟨rfl, hB2⟩; refine Hid.out ?_) | (go_at_call 37; refine c1.mono ?_; rintro e W1 ⟨rfl, hB1⟩))
        refine Lib.hid ?_
        obtain ⟨hz, ⟨g0, g1, g2⟩, k0, k1, k2⟩ := kept3 (on1 hB1 hB2)
        clear c1 c2
        all_goals
          go_wp2
          refine bodyPost_ret (v := .tuple #[.agg #[.string (bs a), .int .i64 nv, .int .i64 mv], .bool true]) (by simp [results, Tryz.results23, go_sem, g0, g1, g2, hz, hcl]) rfl ?_
          exact ⟨⟨bs a, nv, mv⟩, true, rfl, set3b (on1 (below_one hB1) hB2) _ _ _, HN.out⟩
end Go.Proofs.YteabdlandbmdaaaGreatDoor

/-
  The walks of text.withOne at nodes and at ties; what text.addLine has before it.
-/
namespace Go.Proofs.YteabdlandbmdaaaGreatDoor
open Go.RowKit
set_option linter.unusedVariables false
set_option linter.unusedSimpArgs false

theorem nd_one1 (id : Int) (kd : ByteArray) (ra : Option Addr) (rl rcp : Nat) (rc : List Pr) : ∀ u ∈ Nd.cells ⟨id, kd, .slice ra rl rcp, rc⟩, u.oneCell' = true := by
  intro u hu
  simp [Nd.cells] at hu
  rcases hu with rfl | rfl | rfl <;> rfl
theorem te_one1 (bd : ByteArray) (fr tt : Int) : ∀ u ∈ Te.cells ⟨bd, fr, tt⟩, u.oneCell' = true := by
  intro u hu
  simp [Te.cells] at hu
  rcases hu with rfl | rfl | rfl <;> rfl
set_option maxHeartbeats 4000000 in
set_option maxRecDepth 100000 in
theorem withN_any {base : Nat} {v : Value} {N : List Nd} {w : World} (h : OwnNs w base v N) (hb : base ≤ w.heap.size) (n : Nd) (hn : OwnRc w base n.rv n.rc) (hN : N.length ≤ 1000) :
    Calls Tryz.prog 22 #[v, n.one, .int .i64 60] w fun e w' => ∃ ao k c, e = .returned (.slice ao k c) ∧ OwnNs w' base (.slice ao k c) (capN N n) ∧ w.grownBy w' v.ownBlock := by
  obtain ⟨i0, hi0, hz0, hz1, hz2⟩ := info_parts infoN
  obtain ⟨av, cv, rfl⟩ := own_slice h.1
  obtain ⟨ra, rl, rcp, hrv⟩ := hn.sl
  obtain ⟨id, kd, rv, rc⟩ := n
  simp only at hrv
  subst hrv
  have HN : Hid (OwnNs w base (.slice av N.length cv) N ∧ OwnRc w base (.slice ra rl rcp) rc) := ⟨h, hn⟩
  by_cases h6 : 60 < N.length
  · have h6' : (60 : Int) < (N.length : Int) := by omega
    clear h hn hi0
    go_enter Tryz.func22, Tryz.ntmps22
    go_wp2
    go_ret
    refine ⟨_, _, _, rfl, ?_, grown_of_below (b_alloc (Below.refl _ _) _) _⟩
    unfold capN
    rw [if_pos h6]
    exact HN.out.1.kt (.of_below (b_alloc (Below.refl _ _) _)) (.of_below (b_alloc (Below.refl _ _) _))
  · have h6' : ¬ (60 : Int) < (N.length : Int) := by omega
    clear h hn
    have HM : Hid (N.length + 1 ≤ maxLen ∧ (N.length + 1) * 48 ≤ 140737488355328) := by unfold maxLen; exact ⟨by omega, by omega⟩
    obtain ⟨o1, ho1⟩ : ∃ o : Obj, o = .cells #[.int .i64 id, .string kd, .slice ra rl rcp] 37 := ⟨_, rfl⟩
    have HB : Hid (Below w.heap.size w ((w.alloc o1).alloc o1)) := b_alloc (b_alloc (Below.refl _ _) _) _
    have ho : ((w.alloc o1).alloc o1).ownsRow base 37 3 (.slice av N.length cv) N.length (cellsN N) := own_kt HN.out.1.1 (.of_below HB.out)
    have hc : ∀ j u, (Nd.cells ⟨id, kd, .slice ra rl rcp, rc⟩)[j]? = some u → ((w.alloc o1).alloc o1).cell? ((⟨w.heap.size + 1, 0, none⟩ : Addr).add j) = some u := fun j u hu => by
      have := new_at (w.alloc o1) (Nd.cells ⟨id, kd, .slice ra rl rcp, rc⟩) 37 j u hu
      rw [ho1] at this ⊢
      rw [World.size_alloc] at this
      exact this
    rw [ho1] at ho hc HB
    clear ho1
    go_enter Tryz.func22, Tryz.ntmps22
    go_wp2_with (at_builtin; refine wpList_append_own _ rfl (.tmp 12) (.tmp 14) 22 rfl base 37 i0 _ 3 48 Tryz.underlying22 hi0 hz0 hz1 hz2 rfl (by decide) _ N.length (cellsN N) rfl ho ⟨w.heap.size + 1, 0, none⟩ 1 1 (Nd.cells ⟨id, kd, .slice ra rl rcp, rc⟩) rfl rfl hc (nd_one1 id kd ra rl rcp rc) HM.out.1 HM.out.2 (by simp; omega) ?_; intro v2 w2 hown2 hgrow2 _; refine Hid.out ?_)
    refine Lib.hid ?_
    have HG : Hid (w.grownBy w2 (Value.slice av N.length cv).ownBlock) := grown_trans (grown_of_below HB.out _) hgrow2
    have HO : Hid (OwnNs w2 base v2 (capN N ⟨id, kd, .slice ra rl rcp, rc⟩)) := by
      unfold capN
      rw [if_neg h6]
      have hk : Kt 33 w w2 := .of_own HN.out.1.1 (by decide) HG.out
      refine ⟨by rw [cellsN_snoc]; simpa using hown2, fun x hx => ?_⟩
      rcases List.mem_append.1 hx with hx | hx
      · exact (HN.out.1.2 x hx).kt hk
      · rw [List.mem_singleton.1 hx]; exact HN.out.2.kt hk
    obtain ⟨a2, c2, rfl⟩ := own_slice hown2
    clear hown2 hgrow2
    go_wp2
    go_ret
    exact ⟨_, _, _, rfl, HO.out, HG.out⟩
set_option maxHeartbeats 4000000 in
set_option maxRecDepth 100000 in
theorem withT_any {base : Nat} {v : Value} {T : List Te} {w : World} (h : OwnTs w base v T) (hb : base ≤ w.heap.size) (t : Te) (hN : T.length ≤ 1000) :
    Calls Tryz.prog 24 #[v, t.one, .int .i64 120] w fun e w' => ∃ ao k c, e = .returned (.slice ao k c) ∧ OwnTs w' base (.slice ao k c) (capT T t) ∧ w.grownBy w' v.ownBlock := by
  obtain ⟨i0, hi0, hz0, hz1, hz2⟩ := info_parts infoT
  obtain ⟨av, cv, rfl⟩ := own_slice h
  obtain ⟨bd, fr, tt⟩ := t
  have HN : Hid (OwnTs w base (.slice av T.length cv) T) := h
  by_cases h6 : 120 < T.length
  · have h6' : (120 : Int) < (T.length : Int) := by omega
    clear h hi0
    go_enter Tryz.func24, Tryz.ntmps24
    go_wp2
    go_ret
    refine ⟨_, _, _, rfl, ?_, grown_of_below (b_alloc (Below.refl _ _) _) _⟩
    unfold capT
    rw [if_pos h6]
    exact HN.out.kt (.of_below (b_alloc (Below.refl _ _) _))
  · have h6' : ¬ (120 : Int) < (T.length : Int) := by omega
    clear h
    have HM : Hid (T.length + 1 ≤ maxLen ∧ (T.length + 1) * 32 ≤ 140737488355328) := by unfold maxLen; exact ⟨by omega, by omega⟩
    obtain ⟨o1, ho1⟩ : ∃ o : Obj, o = .cells #[.string bd, .int .i64 fr, .int .i64 tt] 61 := ⟨_, rfl⟩
    have HB : Hid (Below w.heap.size w ((w.alloc o1).alloc o1)) := b_alloc (b_alloc (Below.refl _ _) _) _
    have ho : ((w.alloc o1).alloc o1).ownsRow base 61 3 (.slice av T.length cv) T.length (cellsT T) := own_kt HN.out (.of_below HB.out)
    have hc : ∀ j u, (Te.cells ⟨bd, fr, tt⟩)[j]? = some u → ((w.alloc o1).alloc o1).cell? ((⟨w.heap.size + 1, 0, none⟩ : Addr).add j) = some u := fun j u hu => by
      have := new_at (w.alloc o1) (Te.cells ⟨bd, fr, tt⟩) 61 j u hu
      rw [ho1] at this ⊢
      rw [World.size_alloc] at this
      exact this
    rw [ho1] at ho hc HB
    clear ho1
    go_enter Tryz.func24, Tryz.ntmps24
    go_wp2_with (at_builtin; refine wpList_append_own _ rfl (.tmp 12) (.tmp 14) 23 rfl base 61 i0 _ 3 32 Tryz.underlying23 hi0 hz0 hz1 hz2 rfl (by decide) _ T.length (cellsT T) rfl ho ⟨w.heap.size + 1, 0, none⟩ 1 1 (Te.cells ⟨bd, fr, tt⟩) rfl rfl hc (te_one1 bd fr tt) HM.out.1 HM.out.2 (by simp; omega) ?_; intro v2 w2 hown2 hgrow2 _; refine Hid.out ?_)
    refine Lib.hid ?_
    have HG : Hid (w.grownBy w2 (Value.slice av T.length cv).ownBlock) := grown_trans (grown_of_below HB.out _) hgrow2
    have HO : Hid (OwnTs w2 base v2 (capT T ⟨bd, fr, tt⟩)) := by
      unfold capT
      rw [if_neg h6]
      show w2.ownsRow base 61 3 v2 _ _
      rw [cellsT_snoc]; simpa using hown2
    obtain ⟨a2, c2, rfl⟩ := own_slice hown2
    clear hown2 hgrow2
    go_wp2
    go_ret
    exact ⟨_, _, _, rfl, HO.out, HG.out⟩
end Go.Proofs.YteabdlandbmdaaaGreatDoor
