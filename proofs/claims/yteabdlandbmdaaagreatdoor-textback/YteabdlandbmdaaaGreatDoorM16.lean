/-
  The walk of text.addLine.
-/
import Derived.Test.YteabdlandbmdaaaGreatDoorM15
import Derived.Deep.RegionHeld3
import Derived.Deep.RegionLaw
import Derived.Deep.DeepCutAuto
namespace Go.Proofs.YteabdlandbmdaaaGreatDoor
open Go.RowKit
set_option linter.unusedVariables false
set_option linter.unusedSimpArgs false

def GSt (base g : Nat) (N : List Nd) (T : List Te) (w : World) : Prop :=
  ∃ vn vt, w.heap[g]? = some (.cells #[vn, vt] 25 (0, 0)) ∧ OwnNs w base vn N ∧ OwnTs w base vt T ∧ N.length ≤ 61 ∧ T.length ≤ 121 ∧ base ≤ w.heap.size ∧ g < base
structure Fr (base g : Nat) (w w' : World) : Prop where
  os : w'.os = w.os
  tape : w'.tape = w.tape
  output : w'.output = w.output
  size : w.heap.size ≤ w'.heap.size
  low : ∀ b, b < base → b ≠ g → w'.heap[b]? = w.heap[b]?
theorem Fr.of_below {base g : Nat} {w w' : World} (h : Below w.heap.size w w') (hb : base ≤ w.heap.size) : Fr base g w w' := ⟨h.os, h.tape, h.output, h.size, fun b h1 _ => h.block b (by omega)⟩
theorem Fr.trans {base g : Nat} {a b c : World} (h : Fr base g a b) (k : Fr base g b c) : Fr base g a c := ⟨k.os.trans h.os, k.tape.trans h.tape, k.output.trans h.output, Nat.le_trans h.size k.size, fun b h1 h2 => (k.low b h1 h2).trans (h.low b h1 h2)⟩
theorem GSt.below {base g : Nat} {N : List Nd} {T : List Te} {w w' : World} (h : GSt base g N T w) (hB : Below w.heap.size w w') : GSt base g N T w' := by
  obtain ⟨vn, vt, h1, h2, h3, h4, h5, h6, h7⟩ := h
  exact ⟨vn, vt, (hB.block g (by omega)).trans h1, h2.kt (.of_below hB) (.of_below hB), h3.kt (.of_below hB), h4, h5, Nat.le_trans h6 hB.size, h7⟩
theorem adS_no {N : List Nd} {T : List Te} {l : Nm} (h : w4 l = none) : adS N T l = none := by unfold adS; rw [h]
theorem adS_nd {N : List Nd} {T : List Te} {l b c d : Nm} (h : w4 l = some (wNode, b, c, d)) : adS N T l = (match ndO b c d with
      | some n => if T = [] then some (capN N n, T) else none
      | none => none) := by
  unfold adS; rw [h]; simp only; rw [if_pos trivial]
  cases ndO b c d <;> rfl
theorem adS_te {N : List Nd} {T : List Te} {l b c d : Nm} (h : w4 l = some (wTie, b, c, d)) : adS N T l = (match teO b c d with
      | some t => some (N, capT T t)
      | none => none) := by
  unfold adS; rw [h]; simp only; rw [if_neg (by decide), if_pos trivial]
  cases teO b c d <;> rfl
theorem adS_else {N : List Nd} {T : List Te} {l a b c d : Nm} (h : w4 l = some (a, b, c, d)) (h1 : ¬ a = wNode) (h2 : ¬ a = wTie) : adS N T l = none := by unfold adS; rw [h]; simp only; rw [if_neg h1, if_neg h2]
theorem cN_cap (N : List Nd) (n : Nd) : cN (capN N n) = capN (cN N) n.c := by
  unfold capN
  rw [show (cN N).length = N.length from List.length_map ..]
  split
  · rfl
  · simp [cN]
def AlPost (base g : Nat) (N : List Nd) (T : List Te) (l : Nm) (w : World) (e : Ending) (w' : World) : Prop :=
  Fr base g w w' ∧ match adS (cN N) T l with
    | none => e = .returned (.bool false)
    | some r => e = .returned (.bool true) ∧ ∃ N', cN N' = r.1 ∧ GSt base g N' r.2 w'
set_option maxHeartbeats 4000000 in
set_option maxRecDepth 100000 in
theorem addLine_no {base g : Nat} {N : List Nd} {T : List Te} {l : Nm} {w : World} (hS : GSt base g N T w) (hl : l.length ≤ 140737488355328) (h : w4 l = none) :
    Calls Tryz.prog 9 #[.pointer (some ⟨g, 0, none⟩), .string (bs l)] w (AlPost base g N T l w) := by
  have c1 := split_no w hl h
  have HP : Hid (∀ w', Below w.heap.size w w' → AlPost base g N T l w (.returned (.bool false)) w') := fun w' hB => by
    refine ⟨.of_below hB (by obtain ⟨_, _, _, _, _, _, _, h6, _⟩ := hS; exact h6), ?_⟩
    rw [adS_no h]
  clear hS h
  go_enter Tryz.func9, Tryz.ntmps9
  go_wp2_with (go_at_call 20; refine c1.mono ?_; rintro e W1 ⟨k, n, hk, rfl, hB1⟩; have hk4 : ¬ ((k : Int) = 4) := (by omega))
  go_ret
  exact HP.out _ hB1
set_option maxHeartbeats 4000000 in
set_option maxRecDepth 100000 in
theorem addLine_else {base g : Nat} {N : List Nd} {T : List Te} {l a b c d : Nm} {w : World} (hS : GSt base g N T w) (hl : l.length ≤ 140737488355328) (h : w4 l = some (a, b, c, d)) (h1 : ¬ a = wNode) (h2 : ¬ a = wTie) :
    Calls Tryz.prog 9 #[.pointer (some ⟨g, 0, none⟩), .string (bs l)] w (AlPost base g N T l w) := by
  have c1 := split_yes w hl h
  have HP : Hid (∀ w', Below w.heap.size w w' → AlPost base g N T l w (.returned (.bool false)) w') := fun w' hB => by
    refine ⟨.of_below hB (by obtain ⟨_, _, _, _, _, _, _, h6, _⟩ := hS; exact h6), ?_⟩
    rw [adS_else h h1 h2]
  have e1 : (a == [110, 111, 100, 101]) = false := by simpa [wNode] using h1
  have e2 : (a == [116, 105, 101]) = false := by simpa [wTie] using h2
  clear hS h h1 h2
  go_enter Tryz.func9, Tryz.ntmps9
  go_wp2_with (go_at_call 20; refine c1.mono ?_; rintro e W1 ⟨rfl, rfl⟩)
  go_ret
  exact HP.out _ (b_alloc (Below.refl _ _) _)
structure NdAt (base q : Nat) (b c d : Nm) (w1 : World) (p : Nat) (n : Nd) (ok : Bool) (wx : World) : Prop where
  gt : q < p
  at' : wx.heap[p]? = some (.cells #[.int .i64 n.id, .string n.kd, n.rv] 37 (0, 0))
  own : OwnRc wx base n.rv n.rc
  bl : Below w1.heap.size w1 wx
  rd : ndO b c d = if ok = true then some n.c else none
theorem set3_at {w : World} {p : Nat} {v0 v1 v2 a b c : Value} {t : TypeId} (h : w.heap[p]? = some (.cells #[v0, v1, v2] t (0, 0))) : (((w.setCell ⟨p, 0, none⟩ a).setCell ⟨p, 1, none⟩ b).setCell ⟨p, 2, none⟩ c).heap[p]? = some (.cells #[a, b, c] t (0, 0)) := by
  have h1 := heap_setCell_same w p 0 _ t a h
  have h2 := heap_setCell_same _ p 1 _ t b (h1.trans rfl)
  exact (heap_setCell_same _ p 2 _ t c (h2.trans rfl)).trans rfl
theorem set3_kt {w : World} {p : Nat} {v0 v1 v2 a b c : Value} {t u : TypeId} (h : w.heap[p]? = some (.cells #[v0, v1, v2] t (0, 0))) (hne : t ≠ u) : Kt u w (((w.setCell ⟨p, 0, none⟩ a).setCell ⟨p, 1, none⟩ b).setCell ⟨p, 2, none⟩ c) := by
  have h1 := heap_setCell_same w p 0 _ t a h
  have h2 := heap_setCell_same _ p 1 _ t b (h1.trans rfl)
  exact (((Kt.refl u w).set h hne 0 a).set (h1.trans rfl) hne 1 b).set (h2.trans rfl) hne 2 c
theorem ndAt_a {base q : Nat} {b c d : Nm} {W1 W2 : World} {n : Nd} {ok : Bool} (hq : q < W1.heap.size) (hb : base ≤ W1.heap.size)
    (hO : OwnRc W2 (W1.alloc (.cells #[.int .i64 0, .string ⟨#[]⟩, .slice none 0 0] 37)).drew.heap.size n.rv n.rc) (hB : Below (W1.alloc (.cells #[.int .i64 0, .string ⟨#[]⟩, .slice none 0 0] 37)).drew.heap.size (W1.alloc (.cells #[.int .i64 0, .string ⟨#[]⟩, .slice none 0 0] 37)).drew W2) (hn : ndO b c d = if ok = true then some n.c else none) :
    NdAt base q b c d W1 W1.heap.size n ok (((W2.setCell ⟨W1.heap.size, 0, none⟩ (.int .i64 n.id)).setCell ⟨W1.heap.size, 1, none⟩ (.string n.kd)).setCell ⟨W1.heap.size, 2, none⟩ n.rv) := by
  have hz : W1.heap.size < (W1.alloc (.cells #[.int .i64 0, .string ⟨#[]⟩, .slice none 0 0] 37)).drew.heap.size := by simp
  have k := (hB.block W1.heap.size hz).trans (heap_alloc_new W1 _)
  refine ⟨hq, set3_at k, ?_, set3b (on1 (b_drew (b_alloc (Below.refl _ _) _)) hB) _ _ _, hn⟩
  exact (OwnRc.kt (own_base hO (by simp; omega)) (set3_kt k (by decide)))
theorem ndAt_b {base q : Nat} {b c d : Nm} {W1 W2 : World} {n : Nd} {ok : Bool} (hq : q < W1.heap.size) (hb : base ≤ W1.heap.size)
    (hO : OwnRc W2 W1.drew.heap.size n.rv n.rc) (hB : Below W1.drew.heap.size W1.drew W2) (hn : ndO b c d = if ok = true then some n.c else none) :
    NdAt base q b c d W1 W2.heap.size n ok (W2.alloc (.cells #[.int .i64 n.id, .string n.kd, n.rv] 37)) := by
  have hz := hB.size
  refine ⟨Nat.lt_of_lt_of_le hq hz, heap_alloc_new W2 _, ?_, b_alloc (on1 (b_drew (Below.refl _ _)) hB) _, hn⟩
  exact (OwnRc.kt (own_base hO (by simpa using hb)) (.of_below (b_alloc (Below.refl _ _) _)))

set_option maxHeartbeats 8000000 in
set_option maxRecDepth 100000 in
theorem addLine_node {base g : Nat} {N : List Nd} {T : List Te} {l b c d : Nm} {w : World} (hS : GSt base g N T w) (hE : EV w) (hl : l.length ≤ 140737488355328) (h : w4 l = some (wNode, b, c, d)) :
    Calls Tryz.prog 9 #[.pointer (some ⟨g, 0, none⟩), .string (bs l)] w (AlPost base g N T l w) := by
  have c1 := split_yes w hl h
  have hll := congrArg List.length (w4_some h)
  have hlb : b.length ≤ 140737488355328 ∧ d.length ≤ 140737488355328 := by unfold j4 at hll; simp at hll; omega
  have hbw : base ≤ w.heap.size := by obtain ⟨_, _, _, _, _, _, _, h6, _⟩ := hS; exact h6
  obtain ⟨W1, hW1⟩ : ∃ W1, W1 = w.alloc (.cells #[.string (bs wNode), .string (bs b), .string (bs c), .string (bs d)] 9) := ⟨_, rfl⟩
  have hB1 : Below w.heap.size w W1 := by rw [hW1]; exact b_alloc (Below.refl _ _) _
  have hb1 : W1.heap[w.heap.size]? = some (.cells #[.string (bs wNode), .string (bs b), .string (bs c), .string (bs d)] 9 (0, 0)) := by rw [hW1]; exact heap_alloc_new w _
  have hz1 : w.heap.size < W1.heap.size := by rw [hW1]; simp
  rw [← hW1] at c1
  have x0 : W1.cell? ⟨w.heap.size, 0, none⟩ = some (.string (bs wNode)) := cellB hb1 rfl
  have x1 : W1.cell? ⟨w.heap.size, 1, none⟩ = some (.string (bs b)) := cellB hb1 rfl
  have x2 : W1.cell? ⟨w.heap.size, 2, none⟩ = some (.string (bs c)) := cellB hb1 rfl
  have x3 : W1.cell? ⟨w.heap.size, 3, none⟩ = some (.string (bs d)) := cellB hb1 rfl
  have c2 : ∀ W, Below W1.heap.size W1 W → Calls Tryz.prog 21 #[.string (bs b), .string (bs c), .string (bs d)] W (NdPost b c d W) := fun W hB => parseNode_any b c d W hlb.1 hlb.2 (hE.on (on1 hB1 hB))
  have hBa : Below W1.heap.size W1 (W1.alloc (.cells #[.int .i64 0, .string ⟨#[]⟩, .slice none 0 0] 37)).drew := b_drew (b_alloc (Below.refl _ _) _)
  have hBd : Below W1.heap.size W1 W1.drew := b_drew (Below.refl _ _)
  have HX : Hid (∀ W, Below W1.heap.size W1 W → (W.cell? ⟨w.heap.size, 1, none⟩ = some (.string (bs b)) ∧ W.cell? ⟨w.heap.size, 2, none⟩ = some (.string (bs c)) ∧ W.cell? ⟨w.heap.size, 3, none⟩ = some (.string (bs d)))) := fun W h => by
    have k1 := (h.block w.heap.size hz1).trans hb1
    exact ⟨cellB k1 rfl, cellB k1 rfl, cellB k1 rfl⟩
  have HY : Hid (∀ W, Below (W1.alloc (.cells #[.int .i64 0, .string ⟨#[]⟩, .slice none 0 0] 37)).drew.heap.size (W1.alloc (.cells #[.int .i64 0, .string ⟨#[]⟩, .slice none 0 0] 37)).drew W → (W.cell? ⟨W1.heap.size, 0, none⟩ = some (.int .i64 0) ∧ W.cell? ⟨W1.heap.size, 1, none⟩ = some (.string ⟨#[]⟩) ∧ W.cell? ⟨W1.heap.size, 2, none⟩ = some (.slice none 0 0)) ∧ W.frozen? ⟨W1.heap.size, 0, none⟩ = false ∧ W.frozen? ⟨W1.heap.size, 1, none⟩ = false ∧ W.frozen? ⟨W1.heap.size, 2, none⟩ = false) := fun W h => by
    have k2 := (h.block W1.heap.size (by simp)).trans (heap_alloc_new W1 _)
    exact ⟨⟨cellB k2 rfl, cellB k2 rfl, cellB k2 rfl⟩, frzB k2, frzB k2, frzB k2⟩
  have HF : Hid (base ≤ w.heap.size) := hbw
  have HAB : Hid (w.heap.size < W1.heap.size ∧ base ≤ W1.heap.size) := ⟨hz1, Nat.le_trans hbw hB1.size⟩
  have hne0 : ¬ w.heap.size = W1.heap.size := by omega
  have hne1 : ¬ W1.heap.size = w.heap.size := by omega
  have e1 : (wNode == [110, 111, 100, 101]) = true := rfl
  have HS : Hid (GSt base g N T W1 ∧ adS (cN N) T l = (match ndO b c d with | some n => if T = [] then some (capN (cN N) n, T) else none | none => none) ∧ Below w.heap.size w W1) := ⟨hS.below hB1, adS_nd h, hB1⟩
  clear hS hE h hll hlb hW1 hB1 hb1 hbw
  unfold NdPost at c2
  generalize wNode = wn at *
  go_enter Tryz.func9, Tryz.ntmps9
  go_wp2_with (go_at_call 20; refine c1.mono ?_; rintro e W1 ⟨rfl, rfl⟩)
  go_upto_region 6 with fail
  go_cut [6, 7] (fun s6 s7 wx => ∃ p n ok, s6 = .pointer (some ⟨p, 0, none⟩) ∧ s7 = .bool ok ∧ NdAt base w.heap.size b c d W1 p n ok wx)
  case first =>
    go_region_held3 (fun w' => w'.cell? ⟨w.heap.size, 1, none⟩ = some (.string (bs b)) ∧ w'.cell? ⟨w.heap.size, 2, none⟩ = some (.string (bs c)) ∧ w'.cell? ⟨w.heap.size, 3, none⟩ = some (.string (bs d))) (go_keep) (first | (go_at_call 21; refine (c2 _ hBa).mono ?_; rintro e W2 ⟨n, ok, rfl, hO, hB2, hnd⟩; obtain ⟨ra, rl, rcp, hrv⟩ := hO.sl; obtain ⟨id, kd, rv, rc⟩ := n; simp only at hrv; subst hrv; have HO := Lib.hid hO; have HN := Lib.hid hnd; have HB := Lib.hid hB2; clear hO hnd; obtain ⟨z1, z2, z3⟩ := HX.out W2 (on1 hBa hB2); have hne2 : ¬ w.heap.size = W2.heap.size := (by have := HAB.out.1; have := hB2.size; simp at this; omega); have hne3 : ¬ W2.heap.size = w.heap.size := (fun e => hne2 e.symm); obtain ⟨⟨y0, y1, y2⟩, f0, f1, f2⟩ := HY.out W2 hB2; clear hB2) | (go_at_call 21; refine (c2 _ hBd).mono ?_; rintro e W2 ⟨n, ok, rfl, hO, hB2, hnd⟩; obtain ⟨ra, rl, rcp, hrv⟩ := hO.sl; obtain ⟨id, kd, rv, rc⟩ := n; simp only at hrv; subst hrv; have HO := Lib.hid hO; have HN := Lib.hid hnd; have HB := Lib.hid hB2; clear hO hnd; obtain ⟨z1, z2, z3⟩ := HX.out W2 (on1 hBd hB2); have hne2 : ¬ w.heap.size = W2.heap.size := (by have := HAB.out.1; have := hB2.size; simp at this; omega); have hne3 : ¬ W2.heap.size = w.heap.size := (fun e => hne2 e.symm); clear hB2))
    all_goals
      go_wp2
      go_meet
      first
        | exact ⟨_, ⟨id, kd, .slice ra rl rcp, rc⟩, ok, rfl, rfl, ndAt_b HAB.out.1 HAB.out.2 HO.out HB.out HN.out⟩
        | exact ⟨_, ⟨id, kd, .slice ra rl rcp, rc⟩, ok, rfl, rfl, ndAt_a HAB.out.1 HAB.out.2 HO.out HB.out HN.out⟩
  case rest =>
    obtain ⟨p, n, ok, rfl, rfl, hA⟩ := hcut
    clear c1 c2 hBa hBd HX HY x0 x1 x2 x3
    generalize wc = W5 at *
    obtain ⟨vn, vt, hg, hN, hT, lN, lT, hbs, hgb⟩ := HS.out.1.below hA.bl
    obtain ⟨an, cn, rfl⟩ := own_slice hN.1
    obtain ⟨av, cv, rfl⟩ := own_slice hT
    obtain ⟨ra, rl, rcp, hrv⟩ := hA.own.sl
    have hpb := hA.at'
    have cW := withN_any (w := W5.drew) (hN.kt (.of_below (b_drew (Below.refl _ _))) (.of_below (b_drew (Below.refl _ _)))) hbs n (hA.own.kt (.of_below (b_drew (Below.refl _ _)))) (by omega)
    obtain ⟨id, kd, rv, rc⟩ := n
    simp only at hrv hpb
    subst hrv
    have s0 : W5.cell? ⟨g, 0, none⟩ = some (.slice an N.length cn) := cellB hg rfl
    have s1 : W5.cell? ⟨g, 1, none⟩ = some (.slice av T.length cv) := cellB hg rfl
    have p0 : W5.cell? ⟨p, 0, none⟩ = some (.int .i64 id) := cellB hpb rfl
    have p1 : W5.cell? ⟨p, 1, none⟩ = some (.string kd) := cellB hpb rfl
    have p2 : W5.cell? ⟨p, 2, none⟩ = some (.slice ra rl rcp) := cellB hpb rfl
    have HT : Hid (∀ (a6 : Option Addr) (k6 c6 : Nat) W6, OwnNs W6 base (.slice a6 k6 c6) (capN N ⟨id, kd, .slice ra rl rcp, rc⟩) → W5.drew.grownBy W6 (Value.slice an N.length cn).ownBlock → (W6.cell? ⟨g, 0, none⟩ = some (.slice an N.length cn) ∧ W6.frozen? ⟨g, 0, none⟩ = false) ∧ (∀ wx, wx = W6.setCell ⟨g, 0, none⟩ (.slice a6 k6 c6) → GSt base g (capN N ⟨id, kd, .slice ra rl rcp, rc⟩) T wx ∧ Fr base g w wx ∧ wx.cell? ⟨g, 1, none⟩ = some (.slice av T.length cv))) := fun a6 k6 c6 W6 hO6 hG6 => by
      have hgz : g < W5.drew.heap.size := Nat.lt_of_lt_of_le hgb hbs
      have hne : (Value.slice an N.length cn).ownBlock ≠ some g := fun e => by
        have := (own_ge hN.1 e).1
        omega
      have hg6 : W6.heap[g]? = some (.cells #[.slice an N.length cn, .slice av T.length cv] 25 (0, 0)) := (hG6.block g hgz (fun e => hne e.symm)).trans hg
      refine ⟨⟨cellB hg6 rfl, frzB hg6⟩, fun wx hwx => ?_⟩
      have hgx : wx.heap[g]? = some (.cells #[.slice a6 k6 c6, .slice av T.length cv] 25 (0, 0)) := by rw [hwx]; exact (heap_setCell_same W6 g 0 _ 25 _ hg6).trans rfl
      have hk : ∀ u : TypeId, (25 : TypeId) ≠ u → Kt u W6 wx := fun u hu => by rw [hwx]; exact (Kt.refl u W6).set hg6 hu 0 _
      have hkT : Kt 61 W5 W6 := (Kt.refl 61 W5).trans ((Kt.of_own (w := W5.drew) hN.1 (by decide) hG6))
      have hl : (capN N ⟨id, kd, .slice ra rl rcp, rc⟩).length ≤ 61 := by
        unfold capN; split
        · exact lN
        · simp; omega
      refine ⟨⟨_, _, hgx, hO6.kt (hk 37 (by decide)) (hk 33 (by decide)), (hT.kt hkT).kt (hk 61 (by decide)), hl, lT, ?_, hgb⟩, ?_, cellB hgx rfl⟩
      · rw [hwx]; simp; exact Nat.le_trans hbs hG6.size
      · have f1 : Fr base g w W5 := .of_below (on1 HS.out.2.2 hA.bl) HF.out
        refine f1.trans ⟨by rw [hwx]; exact hG6.os, by rw [hwx]; exact hG6.tape, by rw [hwx]; exact hG6.output, by rw [hwx]; simp; exact hG6.size, fun b h1 h2 => ?_⟩
        rw [hwx, heap_setCell_other _ _ _ _ (by simpa using h2)]
        exact hG6.block b (Nat.lt_of_lt_of_le h1 hbs) (fun e => by have := (own_ge hN.1 e.symm).1; omega)
    have HR : Hid (∀ wx, GSt base g (capN N ⟨id, kd, .slice ra rl rcp, rc⟩) T wx → Fr base g w wx → AlPost base g N T l w (.returned (.bool (ok && decide (T = [])))) wx) := fun wx h1 h2 => by
      refine ⟨h2, ?_⟩
      rw [HS.out.2.1, hA.rd]
      cases ok
      · simp
      · by_cases hT0 : T = []
        · subst hT0
          simp only [if_true]
          exact ⟨by simp, _, cN_cap N _, h1⟩
        · simp [hT0]
    clear hg hN hT hA hpb lN lT hbs hgb HS HAB
    go_upto_region 7 with fail
    go_cut [] (fun wx => GSt base g (capN N ⟨id, kd, .slice ra rl rcp, rc⟩) T wx ∧ Fr base g w wx ∧ wx.cell? ⟨g, 1, none⟩ = some (.slice av T.length cv))
    case first =>
      go_region_law (first | (go_simp; go_at_call 22; refine cW.mono ?_; rintro e W6 ⟨a6, k6, c6, rfl, hO6, hG6⟩; obtain ⟨⟨z0, z1⟩, hW⟩ := HT.out a6 k6 c6 W6 hO6 hG6; have HW := Lib.hid hW; clear hW hO6 hG6))
      all_goals
        go_wp2
        go_meet
        exact HW.out _ rfl
    case rest =>
      obtain ⟨h1, h2, h3⟩ := hcut
      have HZ := Lib.hid (HR.out _ h1 h2)
      clear h1 h2 HR HT cW s0 s1 p0 p1 p2
      generalize wc = W7 at *
      have hTz : ((T.length : Int) == 0) = decide (T = []) := by cases T <;> simp <;> omega
      generalize decide (T = []) = tz at *
      cases ok
      · go_wp2
        go_ret
        exact HZ.out
      · go_wp2
        go_ret
        exact HZ.out
end Go.Proofs.YteabdlandbmdaaaGreatDoor

/-
  The walk of text.addLine at a tie's line; at any line.
-/
namespace Go.Proofs.YteabdlandbmdaaaGreatDoor
open Go.RowKit
set_option linter.unusedVariables false
set_option linter.unusedSimpArgs false

structure TeAt (q : Nat) (b c d : Nm) (w1 : World) (p : Nat) (t : Te) (ok : Bool) (wx : World) : Prop where
  gt : q < p
  at' : wx.heap[p]? = some (.cells #[.string t.bd, .int .i64 t.fr, .int .i64 t.tt] 61 (0, 0))
  bl : Below w1.heap.size w1 wx
  rd : teO b c d = if ok = true then some t else none
theorem teAt_a {q : Nat} {b c d : Nm} {W1 W2 : World} {t : Te} {ok : Bool} (hq : q < W1.heap.size)
    (hB : Below (W1.alloc (.cells #[.string ⟨#[]⟩, .int .i64 0, .int .i64 0] 61)).drew.heap.size (W1.alloc (.cells #[.string ⟨#[]⟩, .int .i64 0, .int .i64 0] 61)).drew W2) (hn : teO b c d = if ok = true then some t else none) :
    TeAt q b c d W1 W1.heap.size t ok (((W2.setCell ⟨W1.heap.size, 0, none⟩ (.string t.bd)).setCell ⟨W1.heap.size, 1, none⟩ (.int .i64 t.fr)).setCell ⟨W1.heap.size, 2, none⟩ (.int .i64 t.tt)) := by
  have hz : W1.heap.size < (W1.alloc (.cells #[.string ⟨#[]⟩, .int .i64 0, .int .i64 0] 61)).drew.heap.size := by simp
  have k := (hB.block W1.heap.size hz).trans (heap_alloc_new W1 _)
  exact ⟨hq, set3_at k, set3b (on1 (b_drew (b_alloc (Below.refl _ _) _)) hB) _ _ _, hn⟩
theorem teAt_b {q : Nat} {b c d : Nm} {W1 W2 : World} {t : Te} {ok : Bool} (hq : q < W1.heap.size) (hB : Below W1.drew.heap.size W1.drew W2) (hn : teO b c d = if ok = true then some t else none) :
    TeAt q b c d W1 W2.heap.size t ok (W2.alloc (.cells #[.string t.bd, .int .i64 t.fr, .int .i64 t.tt] 61)) :=
  ⟨Nat.lt_of_lt_of_le hq hB.size, heap_alloc_new W2 _, b_alloc (on1 (b_drew (Below.refl _ _)) hB) _, hn⟩
set_option maxHeartbeats 8000000 in
set_option maxRecDepth 100000 in
theorem addLine_tie {base g : Nat} {N : List Nd} {T : List Te} {l b c d : Nm} {w : World} (hS : GSt base g N T w) (hE : EV w) (hl : l.length ≤ 140737488355328) (h : w4 l = some (wTie, b, c, d)) :
    Calls Tryz.prog 9 #[.pointer (some ⟨g, 0, none⟩), .string (bs l)] w (AlPost base g N T l w) := by
  have c1 := split_yes w hl h
  have hll := congrArg List.length (w4_some h)
  have hlb : c.length ≤ 140737488355328 ∧ d.length ≤ 140737488355328 := by unfold j4 at hll; simp at hll; omega
  have hbw : base ≤ w.heap.size := by obtain ⟨_, _, _, _, _, _, _, h6, _⟩ := hS; exact h6
  obtain ⟨W1, hW1⟩ : ∃ W1, W1 = w.alloc (.cells #[.string (bs wTie), .string (bs b), .string (bs c), .string (bs d)] 9) := ⟨_, rfl⟩
  have hB1 : Below w.heap.size w W1 := by rw [hW1]; exact b_alloc (Below.refl _ _) _
  have hb1 : W1.heap[w.heap.size]? = some (.cells #[.string (bs wTie), .string (bs b), .string (bs c), .string (bs d)] 9 (0, 0)) := by rw [hW1]; exact heap_alloc_new w _
  have hz1 : w.heap.size < W1.heap.size := by rw [hW1]; simp
  rw [← hW1] at c1
  have x0 : W1.cell? ⟨w.heap.size, 0, none⟩ = some (.string (bs wTie)) := cellB hb1 rfl
  have x1 : W1.cell? ⟨w.heap.size, 1, none⟩ = some (.string (bs b)) := cellB hb1 rfl
  have x2 : W1.cell? ⟨w.heap.size, 2, none⟩ = some (.string (bs c)) := cellB hb1 rfl
  have x3 : W1.cell? ⟨w.heap.size, 3, none⟩ = some (.string (bs d)) := cellB hb1 rfl
  have c2 : ∀ W, Below W1.heap.size W1 W → Calls Tryz.prog 23 #[.string (bs b), .string (bs c), .string (bs d)] W (TePost b c d W) := fun W hB => parseTie_any b c d W hlb.1 hlb.2 (hE.on (on1 hB1 hB))
  have hBa : Below W1.heap.size W1 (W1.alloc (.cells #[.string ⟨#[]⟩, .int .i64 0, .int .i64 0] 61)).drew := b_drew (b_alloc (Below.refl _ _) _)
  have hBd : Below W1.heap.size W1 W1.drew := b_drew (Below.refl _ _)
  have HX : Hid (∀ W, Below W1.heap.size W1 W → (W.cell? ⟨w.heap.size, 1, none⟩ = some (.string (bs b)) ∧ W.cell? ⟨w.heap.size, 2, none⟩ = some (.string (bs c)) ∧ W.cell? ⟨w.heap.size, 3, none⟩ = some (.string (bs d)))) := fun W h => by
    have k1 := (h.block w.heap.size hz1).trans hb1
    exact ⟨cellB k1 rfl, cellB k1 rfl, cellB k1 rfl⟩
  have HY : Hid (∀ W, Below (W1.alloc (.cells #[.string ⟨#[]⟩, .int .i64 0, .int .i64 0] 61)).drew.heap.size (W1.alloc (.cells #[.string ⟨#[]⟩, .int .i64 0, .int .i64 0] 61)).drew W → (W.cell? ⟨W1.heap.size, 0, none⟩ = some (.string ⟨#[]⟩) ∧ W.cell? ⟨W1.heap.size, 1, none⟩ = some (.int .i64 0) ∧ W.cell? ⟨W1.heap.size, 2, none⟩ = some (.int .i64 0)) ∧ W.frozen? ⟨W1.heap.size, 0, none⟩ = false ∧ W.frozen? ⟨W1.heap.size, 1, none⟩ = false ∧ W.frozen? ⟨W1.heap.size, 2, none⟩ = false) := fun W h => by
    have k2 := (h.block W1.heap.size (by simp)).trans (heap_alloc_new W1 _)
    exact ⟨⟨cellB k2 rfl, cellB k2 rfl, cellB k2 rfl⟩, frzB k2, frzB k2, frzB k2⟩
  have HF : Hid (base ≤ w.heap.size) := hbw
  have HAB : Hid (w.heap.size < W1.heap.size ∧ base ≤ W1.heap.size) := ⟨hz1, Nat.le_trans hbw hB1.size⟩
  have hne0 : ¬ w.heap.size = W1.heap.size := by omega
  have hne1 : ¬ W1.heap.size = w.heap.size := by omega
  have e1 : (wTie == [110, 111, 100, 101]) = false := rfl
  have e2 : (wTie == [116, 105, 101]) = true := rfl
  have HS : Hid (GSt base g N T W1 ∧ adS (cN N) T l = (match teO b c d with | some t => some (cN N, capT T t) | none => none) ∧ Below w.heap.size w W1) := ⟨hS.below hB1, adS_te h, hB1⟩
  clear hS hE h hll hlb hW1 hB1 hb1 hbw
  unfold TePost at c2
  generalize wTie = wn at *
  go_enter Tryz.func9, Tryz.ntmps9
  go_wp2_with (go_at_call 20; refine c1.mono ?_; rintro e W1 ⟨rfl, rfl⟩)
  go_upto_region 10 with fail
  go_cut [8, 9] (fun s6 s7 wx => ∃ p t ok, s6 = .pointer (some ⟨p, 0, none⟩) ∧ s7 = .bool ok ∧ TeAt w.heap.size b c d W1 p t ok wx)
  case first =>
    go_region_held3 (fun w' => w'.cell? ⟨w.heap.size, 1, none⟩ = some (.string (bs b)) ∧ w'.cell? ⟨w.heap.size, 2, none⟩ = some (.string (bs c)) ∧ w'.cell? ⟨w.heap.size, 3, none⟩ = some (.string (bs d))) (go_keep) (first | (go_at_call 23; refine (c2 _ hBa).mono ?_; rintro e W2 ⟨t, ok, rfl, hB2, hnd⟩; obtain ⟨bd, fr, tt⟩ := t; have HN := Lib.hid hnd; have HB := Lib.hid hB2; clear hnd; obtain ⟨z1, z2, z3⟩ := HX.out W2 (on1 hBa hB2); have hne2 : ¬ w.heap.size = W2.heap.size := (by have := HAB.out.1; have := hB2.size; simp at this; omega); have hne3 : ¬ W2.heap.size = w.heap.size := (fun e => hne2 e.symm); obtain ⟨⟨y0, y1, y2⟩, f0, f1, f2⟩ := HY.out W2 hB2; clear hB2) | (go_at_call 23; refine (c2 _ hBd).mono ?_; rintro e W2 ⟨t, ok, rfl, hB2, hnd⟩; obtain ⟨bd, fr, tt⟩ := t; have HN := Lib.hid hnd; have HB := Lib.hid hB2; clear hnd; obtain ⟨z1, z2, z3⟩ := HX.out W2 (on1 hBd hB2); have hne2 : ¬ w.heap.size = W2.heap.size := (by have := HAB.out.1; have := hB2.size; simp at this; omega); have hne3 : ¬ W2.heap.size = w.heap.size := (fun e => hne2 e.symm); clear hB2))
    all_goals
      go_wp2
      go_meet
      first
        | exact ⟨_, ⟨bd, fr, tt⟩, ok, rfl, rfl, teAt_b HAB.out.1 HB.out HN.out⟩
        | exact ⟨_, ⟨bd, fr, tt⟩, ok, rfl, rfl, teAt_a HAB.out.1 HB.out HN.out⟩
  case rest =>
    obtain ⟨p, t, ok, rfl, rfl, hA⟩ := hcut
    clear c1 c2 hBa hBd HX HY x0 x1 x2 x3
    generalize wc = W5 at *
    obtain ⟨vn, vt, hg, hN, hT, lN, lT, hbs, hgb⟩ := HS.out.1.below hA.bl
    obtain ⟨an, cn, rfl⟩ := own_slice hN.1
    obtain ⟨av, cv, rfl⟩ := own_slice hT
    have hpb := hA.at'
    have cW := withT_any (w := W5.drew) (hT.kt (.of_below (b_drew (Below.refl _ _)))) hbs t (by omega)
    obtain ⟨bd, fr, tt⟩ := t
    simp only at hpb
    have s0 : W5.cell? ⟨g, 0, none⟩ = some (.slice an N.length cn) := cellB hg rfl
    have s1 : W5.cell? ⟨g, 1, none⟩ = some (.slice av T.length cv) := cellB hg rfl
    have p0 : W5.cell? ⟨p, 0, none⟩ = some (.string bd) := cellB hpb rfl
    have p1 : W5.cell? ⟨p, 1, none⟩ = some (.int .i64 fr) := cellB hpb rfl
    have p2 : W5.cell? ⟨p, 2, none⟩ = some (.int .i64 tt) := cellB hpb rfl
    have HT : Hid (∀ (a6 : Option Addr) (k6 c6 : Nat) W6, OwnTs W6 base (.slice a6 k6 c6) (capT T ⟨bd, fr, tt⟩) → W5.drew.grownBy W6 (Value.slice av T.length cv).ownBlock → (W6.cell? ⟨g, 1, none⟩ = some (.slice av T.length cv) ∧ W6.frozen? ⟨g, 1, none⟩ = false) ∧ (∀ wx, wx = W6.setCell ⟨g, 1, none⟩ (.slice a6 k6 c6) → GSt base g N (capT T ⟨bd, fr, tt⟩) wx ∧ Fr base g w wx)) := fun a6 k6 c6 W6 hO6 hG6 => by
      have hgz : g < W5.drew.heap.size := Nat.lt_of_lt_of_le hgb hbs
      have hne : (Value.slice av T.length cv).ownBlock ≠ some g := fun e => by
        have := (own_ge hT e).1
        omega
      have hg6 : W6.heap[g]? = some (.cells #[.slice an N.length cn, .slice av T.length cv] 25 (0, 0)) := (hG6.block g hgz (fun e => hne e.symm)).trans hg
      refine ⟨⟨cellB hg6 rfl, frzB hg6⟩, fun wx hwx => ?_⟩
      have hgx : wx.heap[g]? = some (.cells #[.slice an N.length cn, .slice a6 k6 c6] 25 (0, 0)) := by rw [hwx]; exact (heap_setCell_same W6 g 1 _ 25 _ hg6).trans rfl
      have hk : ∀ u : TypeId, (25 : TypeId) ≠ u → Kt u W6 wx := fun u hu => by rw [hwx]; exact (Kt.refl u W6).set hg6 hu 1 _
      have hkN : Kt 37 W5 W6 := (Kt.refl 37 W5).trans ((Kt.of_own (w := W5.drew) hT (by decide) hG6))
      have hkR : Kt 33 W5 W6 := (Kt.refl 33 W5).trans ((Kt.of_own (w := W5.drew) hT (by decide) hG6))
      have hl : (capT T ⟨bd, fr, tt⟩).length ≤ 121 := by
        unfold capT; split
        · exact lT
        · simp; omega
      refine ⟨⟨_, _, hgx, (hN.kt hkN hkR).kt (hk 37 (by decide)) (hk 33 (by decide)), hO6.kt (hk 61 (by decide)), lN, hl, ?_, hgb⟩, ?_⟩
      · rw [hwx]; simp; exact Nat.le_trans hbs hG6.size
      · have f1 : Fr base g w W5 := .of_below (on1 HS.out.2.2 hA.bl) HF.out
        refine f1.trans ⟨by rw [hwx]; exact hG6.os, by rw [hwx]; exact hG6.tape, by rw [hwx]; exact hG6.output, by rw [hwx]; simp; exact hG6.size, fun b h1 h2 => ?_⟩
        rw [hwx, heap_setCell_other _ _ _ _ (by simpa using h2)]
        exact hG6.block b (Nat.lt_of_lt_of_le h1 hbs) (fun e => by have := (own_ge hT e.symm).1; omega)
    have HR : Hid (∀ wx, GSt base g N (capT T ⟨bd, fr, tt⟩) wx → Fr base g w wx → AlPost base g N T l w (.returned (.bool ok)) wx) := fun wx h1 h2 => by
      refine ⟨h2, ?_⟩
      rw [HS.out.2.1, hA.rd]
      cases ok
      · simp
      · simp only [if_true]
        exact ⟨trivial, N, rfl, h1⟩
    clear hg hN hT hA hpb lN lT hbs hgb HS HAB
    go_upto_region 11 with fail
    go_cut [] (fun wx => GSt base g N (capT T ⟨bd, fr, tt⟩) wx ∧ Fr base g w wx)
    case first =>
      go_region_law (first | (go_simp; go_at_call 24; refine cW.mono ?_; rintro e W6 ⟨a6, k6, c6, rfl, hO6, hG6⟩; obtain ⟨⟨z0, z1⟩, hW⟩ := HT.out a6 k6 c6 W6 hO6 hG6; have HW := Lib.hid hW; clear hW hO6 hG6))
      all_goals
        go_wp2
        go_meet
        exact HW.out _ rfl
    case rest =>
      obtain ⟨h1, h2⟩ := hcut
      have HZ := Lib.hid (HR.out _ h1 h2)
      clear h1 h2 HR HT cW s0 s1 p0 p1 p2
      generalize wc = W7 at *
      go_wp2
      go_ret
      exact HZ.out
theorem addLine_any {base g : Nat} {N : List Nd} {T : List Te} {l : Nm} {w : World} (hS : GSt base g N T w) (hE : EV w) (hl : l.length ≤ 140737488355328) :
    Calls Tryz.prog 9 #[.pointer (some ⟨g, 0, none⟩), .string (bs l)] w (AlPost base g N T l w) := by
  cases h : w4 l with
  | none => exact addLine_no hS hl h
  | some q =>
    obtain ⟨a, b, c, d⟩ := q
    by_cases h1 : a = wNode
    · subst h1; exact addLine_node hS hE hl h
    · by_cases h2 : a = wTie
      · subst h2; exact addLine_tie hS hE hl h
      · exact addLine_else hS hl h h1 h2
end Go.Proofs.YteabdlandbmdaaaGreatDoor
