/-
  The walk of check.Faults.
-/
import Derived.Test.YtjjnfnlkfojehaaChkJ
namespace Go.Proofs.Ytjjnfnlkfojehaa
open Go.RowKit
set_option linter.unusedVariables false
set_option linter.unusedSimpArgs false

/-- A schema lies there. -/
def IsSc (w : World) (v : Value) (L : List Kd) (B : List Bd) : Prop := ∃ vk vb, v = .agg #[vk, vb] ∧ IsK w vk L ∧ Parts w L ∧ SzK L ∧ IsB w vb B ∧ SzB B
/-- A graph lies there. -/
def IsG (w : World) (v : Value) (N : List Nd) (T : List Te) : Prop := ∃ vn vt, v = .agg #[vn, vt] ∧ IsN w vn N ∧ IsT w vt T ∧ SzN N ∧ SzT T ∧ N.length ≤ maxLen ∧ T.length ≤ maxLen
theorem IsSc.on {w w' : World} {v : Value} {L : List Kd} {B : List Bd} (h : IsSc w v L B) (hB : Below w.heap.size w w') : IsSc w' v L B := by
  obtain ⟨a, b, h0, h1, h2, h3, h4, h5⟩ := h
  exact ⟨a, b, h0, h1.on hB, h2.on hB, h3, h4.on hB, h5⟩
theorem IsG.on {w w' : World} {v : Value} {N : List Nd} {T : List Te} (h : IsG w v N T) (hB : Below w.heap.size w w') : IsG w' v N T := by
  obtain ⟨a, b, h0, h1, h2, h3⟩ := h
  exact ⟨a, b, h0, h1.on hB, h2.on hB, h3⟩
/-- What Faults gives. -/
def FaPost (w : World) (e0 : Int) (l : List Ft) (e : Ending) (w' : World) : Prop :=
  ∃ u, e = .returned (.tuple #[u, errV e0]) ∧ (¬ e0 = 0 → u = .slice none 0 0) ∧ (e0 = 0 → OwnX w' w.heap.size u l) ∧ Below w.heap.size w w'
theorem FaPost.bad {w w' : World} {e0 : Int} {l : List Ft} (h : ¬ e0 = 0) (hB : Below w.heap.size w w') : FaPost w e0 l (.returned (.tuple #[.slice none 0 0, errV e0])) w' := ⟨_, rfl, fun _ => rfl, fun h' => absurd h' h, hB⟩
theorem inE_s {L : List Kd} {B : List Bd} {N : List Nd} {T : List Te} (h : ¬ (sErr L B).2 = 0) : inE L B N T = (sErr L B).2 := by unfold inE; rw [if_neg h]
theorem inE_g {L : List Kd} {B : List Bd} {N : List Nd} {T : List Te} (h : (sErr L B).2 = 0) : inE L B N T = gErr N T := by unfold inE; rw [if_pos h]
/-- Four cells. -/
def Box4 (p q : Nat) (x y a b : Value) (w : World) : Prop := (p < w.heap.size ∧ q < w.heap.size) ∧ (w.cell? ⟨p, 0, none⟩ = some x ∧ w.cell? ⟨p, 1, none⟩ = some y) ∧ (w.cell? ⟨q, 0, none⟩ = some a ∧ w.cell? ⟨q, 1, none⟩ = some b)
theorem Box4.app {p q : Nat} {x y a b : Value} {w w' : World} {r : Option Nat} (h : Box4 p q x y a b w) (hg : w.grownBy w' r) (hr : ∀ g, r = some g → p < g ∧ q < g) : Box4 p q x y a b w' := by
  obtain ⟨⟨h1, h2⟩, ⟨a0, a1⟩, ⟨b0, b1⟩⟩ := h
  have hp : some p ≠ r := fun e => by have := hr p e.symm; omega
  have hq : some q ≠ r := fun e => by have := hr q e.symm; omega
  exact ⟨⟨Nat.lt_of_lt_of_le h1 hg.size, Nat.lt_of_lt_of_le h2 hg.size⟩, ⟨hg.cell a0 hp, hg.cell a1 hp⟩, hg.cell b0 hq, hg.cell b1 hq⟩
theorem Box4.on {p q : Nat} {x y a b : Value} {w w' : World} (h : Box4 p q x y a b w) (hB : Below w.heap.size w w') : Box4 p q x y a b w' := h.app (but_of_below hB none) (fun g hg => by cases hg)
set_option maxHeartbeats 8000000 in
set_option maxRecDepth 100000 in
theorem faults_any {vs vg : Value} {L : List Kd} {B : List Bd} {N : List Nd} {T : List Te} {w : World} (hs : IsSc w vs L B) (hg : IsG w vg N T) : Calls Try.prog 5 #[vs, vg] w (FaPost w (inE L B N T) (allF L B N T)) := by
  obtain ⟨vk, vb, rfl, hK, hP, hz, hb, hzb⟩ := hs
  obtain ⟨vn, vt, rfl, hN, hT, zN, zT, lN, lT⟩ := hg
  have HH : Hid (IsN w vn N ∧ IsT w vt T ∧ SzN N ∧ SzT T ∧ N.length ≤ maxLen ∧ T.length ≤ maxLen ∧ SzK L ∧ SzB B) := ⟨hN, hT, zN, zT, lN, lT, hz, hzb⟩
  obtain ⟨ak, ck, rfl, _⟩ := hK.sln
  obtain ⟨ab, cb, rfl, _⟩ := hb.sln
  obtain ⟨an, cn, rfl, _⟩ := hN
  obtain ⟨at', ct, rfl, _⟩ := hT
  have HB0 : Hid (Below w.heap.size w (box2 w #[.slice ak L.length ck, .slice ab B.length cb] 25 #[.slice an N.length cn, .slice at' T.length ct] 29)) := box2_below _ _ _ _ _
  have hz0 : (box2 w #[.slice ak L.length ck, .slice ab B.length cb] 25 #[.slice an N.length cn, .slice at' T.length ct] 29).heap.size = w.heap.size + 2 := box2_size _ _ _ _ _
  have HZ0 : Hid ((box2 w #[.slice ak L.length ck, .slice ab B.length cb] 25 #[.slice an N.length cn, .slice at' T.length ct] 29).heap.size = w.heap.size + 2 ∧ (box2 w #[.slice ak L.length ck, .slice ab B.length cb] 25 #[.slice an N.length cn, .slice at' T.length ct] 29).cell? ⟨w.heap.size + 1, 0, none⟩ = some (.slice an N.length cn) ∧ (box2 w #[.slice ak L.length ck, .slice ab B.length cb] 25 #[.slice an N.length cn, .slice at' T.length ct] 29).cell? ⟨w.heap.size + 1, 1, none⟩ = some (.slice at' T.length ct)) := ⟨hz0, box2_b _ _ _ _ _ rfl, box2_b _ _ _ _ _ rfl⟩
  by_cases he : (sErr L B).2 = 0
  · have c := (planOf_ok (hK.on HB0.out) (hP.on HB0.out) hz (hb.on HB0.out) hzb he)
    have c' : Calls Try.prog 11 #[.agg #[.slice ak L.length ck, .slice ab B.length cb]] (box2 w #[.slice ak L.length ck, .slice ab B.length cb] 25 #[.slice an N.length cn, .slice at' T.length ct] 29) fun e w' => ∃ b1 b2, e = .returned (.tuple #[.agg #[.map (some b1), .map (some b2)], .nilIface]) ∧ IsPl w' (.agg #[.map (some b1), .map (some b2)]) (shO L B L) (bdO B) ∧ Below (box2 w #[.slice ak L.length ck, .slice ab B.length cb] 25 #[.slice an N.length cn, .slice at' T.length ct] 29).heap.size (box2 w #[.slice ak L.length ck, .slice ab B.length cb] 25 #[.slice an N.length cn, .slice at' T.length ct] 29) w' := by
      refine c.mono ?_
      rintro e w' (⟨h, _⟩ | ⟨_, h⟩)
      · exact absurd he h
      · exact h
    have HE : Hid ((sErr L B).2 = 0) := he
    clear c hK hP hz hb hzb zN zT lN lT he hz0
    go_enter Try.func5, Try.ntmps5
    go_wp2_with (go_at_call 11; refine c'.mono ?_; rintro e W1 ⟨b1, b2, rfl, hPl, hB1⟩; refine Hid.out ?_)
    refine Lib.hid ?_
    have hw1 : w.heap.size + 2 ≤ W1.heap.size := by have := hB1.size; rw [HZ0.out.1] at this; exact this
    have hBp : Below W1.heap.size W1 (W1.alloc (.cells #[.map (some b1), .map (some b2)] 56)) := b_allocK (Below.refl _ _) (Nat.le_refl _) _
    have HB1 : Hid (Below w.heap.size w (W1.alloc (.cells #[.map (some b1), .map (some b2)] 56))) := on1K (on1K HB0.out hB1 (Nat.le_refl _)) hBp (Nat.le_refl _)
    have HPl : Hid (IsPl (W1.alloc (.cells #[.map (some b1), .map (some b2)] 56)) (.agg #[.map (some b1), .map (some b2)]) (shO L B L) (bdO B)) := hPl.on hBp
    have hn0 : (W1.alloc (.cells #[.map (some b1), .map (some b2)] 56)).heap[W1.heap.size]? = some (.cells #[.map (some b1), .map (some b2)] 56 (0, 0)) := heap_alloc_new W1 _
    have HX4 : Hid (Box4 W1.heap.size (w.heap.size + 1) (.map (some b1)) (.map (some b2)) (.slice an N.length cn) (.slice at' T.length ct) (W1.alloc (.cells #[.map (some b1), .map (some b2)] 56))) := ⟨⟨by simp, by simp; omega⟩, ⟨cell_at hn0 rfl, cell_at hn0 rfl⟩, (hBp.cell (by show w.heap.size + 1 < _; omega)).trans ((hB1.cell (by rw [HZ0.out.1]; simp)).trans HZ0.out.2.1), (hBp.cell (by show w.heap.size + 1 < _; omega)).trans ((hB1.cell (by rw [HZ0.out.1]; simp)).trans HZ0.out.2.2)⟩
    have cg := gcheck_any (HH.out.1.on HB1.out) (HH.out.2.1.on HB1.out) HH.out.2.2.1 HH.out.2.2.2.1 HH.out.2.2.2.2.1 HH.out.2.2.2.2.2.1
    obtain ⟨_, ⟨o0, o1⟩, ⟨o2, o3⟩⟩ := HX4.out
    clear c' hPl hB1 hBp hn0
    by_cases hge : gErr N T = 0
    · rw [hge, errV_0] at cg
      have HG : Hid (gErr N T = 0) := hge
      clear hge
      go_wp2_with (go_at_call 12; refine cg.mono ?_; rintro e W2 ⟨rfl, hB2⟩; refine Hid.out ?_)
      refine Lib.hid ?_
      have HB2 : Hid (Below w.heap.size w W2.drew ∧ Below (W1.alloc (.cells #[.map (some b1), .map (some b2)] 56)).heap.size (W1.alloc (.cells #[.map (some b1), .map (some b2)] 56)) W2.drew) := ⟨b_drew (on1K HB1.out hB2 (Nat.le_refl _)), b_drew hB2⟩
      have HX5 : Hid (Box4 W1.heap.size (w.heap.size + 1) (.map (some b1)) (.map (some b2)) (.slice an N.length cn) (.slice at' T.length ct) W2.drew) := HX4.out.on HB2.out.2
      have hsz2 : W1.heap.size + 1 ≤ W2.heap.size := by have := hB2.size; rw [World.size_alloc] at this; exact this
      obtain ⟨g60, g120, _, _⟩ := gErr_parts HG.out
      have hH := shO_ok HE.out HH.out.2.2.2.2.2.2.1 HH.out.2.2.2.2.2.2.2
      have hoN := nds_ok HG.out HH.out.2.2.1
      have hoT := tes_ok HG.out HH.out.2.2.2.1
      have HC13 : Hid (Calls Try.prog 13 #[.agg #[.map (some b1), .map (some b2)], .agg #[.slice an N.length cn, .slice at' T.length ct]] W2.drew (XPost W2.drew (nodeF (shO L B L) (outO T) N))) := nodeFaults_any (HPl.out.on HB2.out.2) hH (HH.out.1.on HB2.out.1) (HH.out.2.1.on HB2.out.1) hoN hoT g60 g120
      have HC14 : Hid (∀ W3, Below W2.drew.heap.size W2.drew W3 → Calls Try.prog 14 #[.agg #[.map (some b1), .map (some b2)], .agg #[.slice an N.length cn, .slice at' T.length ct]] W3 (XPost W3 (tieF (bdO B) (endO (shO L B L) N) T))) := fun W3 h3 => tieFaults_any ((HPl.out.on HB2.out.2).on h3) hH ((HH.out.1.on HB2.out.1).on h3) ((HH.out.2.1.on HB2.out.1).on h3) hoN hoT g60 g120
      have HLn : Hid ((nodeF (shO L B L) (outO T) N).length + (tieF (bdO B) (endO (shO L B L) N) T).length ≤ 100000) := by
        have h1 := nodeS_len hH (outO T) hoN ([], fun _ => none)
        have h2 := tieF_len (bdO B) (endO (shO L B L) N) T
        show _ ≤ _
        unfold nodeF
        simp at h1
        omega
      have HEnd : Hid (∀ W3 W4 u1 v1 w1, Below W2.drew.heap.size W2.drew W3 → Below W3.heap.size W3 W4 → OwnX W3 W2.drew.heap.size u1 (nodeF (shO L B L) (outO T) N) → OwnX w1 W2.drew.heap.size v1 (nodeF (shO L B L) (outO T) N ++ tieF (bdO B) (endO (shO L B L) N) T) → World.grownBy W4 w1 u1.ownBlock → FaPost w (inE L B N T) (allF L B N T) (.returned (.tuple #[v1, .nilIface])) w1) := by
        intro W3 W4 u1 v1 w1 h3 h4 hX1 hX hgr
        have hrow : ∀ g, u1.ownBlock = some g → w.heap.size ≤ g := fun g hg => by have := (World.ownsRow.lt hX1 g hg).1; have h5 : W2.drew.heap.size = W2.heap.size := rfl; omega
        have e0 : inE L B N T = 0 := by rw [inE_g HE.out]; exact HG.out
        have hB : Below w.heap.size w W4 := on1K (on1K HB2.out.1 h3 (Nat.le_refl _)) h4 (Nat.le_refl _)
        refine ⟨v1, by rw [e0]; rfl, fun h => absurd e0 h, fun _ => own_mono hX (by have h5 : W2.drew.heap.size = W2.heap.size := rfl; omega), hB.grown hgr (Nat.le_trans (Nat.le_refl _) hB.size) hrow⟩
      have HRow : Hid (∀ W3 u1, OwnX W3 W2.drew.heap.size u1 (nodeF (shO L B L) (outO T) N) → ∀ g, u1.ownBlock = some g → W1.heap.size < g ∧ w.heap.size + 1 < g) := fun W3 u1 hX g hg => by
        have := (World.ownsRow.lt hX g hg).1
        have h5 : W2.drew.heap.size = W2.heap.size := rfl
        omega
      have p0 : W2.cell? ⟨W1.heap.size, 0, none⟩ = some (.map (some b1)) := HX5.out.2.1.1
      have p1 : W2.cell? ⟨W1.heap.size, 1, none⟩ = some (.map (some b2)) := HX5.out.2.1.2
      have p2 : W2.cell? ⟨w.heap.size + 1, 0, none⟩ = some (.slice an N.length cn) := HX5.out.2.2.1
      have p3 : W2.cell? ⟨w.heap.size + 1, 1, none⟩ = some (.slice at' T.length ct) := HX5.out.2.2.2
      clear cg hB2 hH hoN hoT
      go_wp2
      first | (go_region_held_law (fun w' => w'.cell? ⟨W1.heap.size, 0, none⟩ = some (.map (some b1)) ∧ w'.cell? ⟨W1.heap.size, 1, none⟩ = some (.map (some b2)) ∧ w'.cell? ⟨w.heap.size + 1, 0, none⟩ = some (.slice an N.length cn) ∧ w'.cell? ⟨w.heap.size + 1, 1, none⟩ = some (.slice at' T.length ct)) (go_keep) (first | (refine step_appX rfl (.tmp 24) (.tmp 27) rfl (by simp [Act.eval, Act.put]) (by simp [Act.eval, Act.put]) (own_below hX1 hB4) hX2 HLn.out (Nat.le_trans hB3.size hB4.size) ?_; intro v1 w1 hX hgr; have HFin := Lib.hid (HEnd.out W3 W4 u1 v1 w1 hB3 hB4 hX1 hX hgr); obtain ⟨_, ⟨s0, s1⟩, ⟨s2, s3⟩⟩ := (((HX5.out.on hB3).on hB4).app hgr (HRow.out W3 u1 hX1))) | (go_simp; go_at_call 13; refine HC13.out.mono ?_; rintro e W3 ⟨u1, rfl, hX1, hB3⟩; obtain ⟨_, ⟨q0, q1⟩, ⟨q2, q3⟩⟩ := HX5.out.on hB3) | (go_simp; go_at_call 14; refine (HC14.out W3 hB3).mono ?_; rintro e W4 ⟨u2, rfl, hX2, hB4⟩; obtain ⟨_, ⟨r0, r1⟩, ⟨r2, r3⟩⟩ := (HX5.out.on hB3).on hB4))) | fail
      all_goals
        go_wp2
        go_ret2
        exact ret_eq (Post := FaPost w _ _) (by simp) HFin.out
    · rw [errV_ne hge] at cg
      have HG : Hid (¬ gErr N T = 0) := hge
      clear hge
      go_wp2_with (go_at_call 12; refine cg.mono ?_; rintro e W2 ⟨rfl, hB2⟩; refine Hid.out ?_)
      refine Lib.hid ?_
      have HF : Hid (FaPost w (inE L B N T) (allF L B N T) (.returned (.tuple #[.slice none 0 0, .iface 78 (.int .i64 (gErr N T))])) W2) := by
        have := FaPost.bad (l := allF L B N T) (by rw [inE_g HE.out]; exact HG.out) (on1K HB1.out hB2 (Nat.le_refl _)) (e0 := inE L B N T)
        rw [show errV (inE L B N T) = .iface 78 (.int .i64 (gErr N T)) from by rw [inE_g HE.out, errV_ne HG.out]] at this
        exact this
      clear cg hB2
      go_wp2
      go_ret2
      exact HF.out
  · have c := (planOf_bad (hK.on HB0.out) (hP.on HB0.out) hz (hb.on HB0.out) hzb he)
    have c' : Calls Try.prog 11 #[.agg #[.slice ak L.length ck, .slice ab B.length cb]] (box2 w #[.slice ak L.length ck, .slice ab B.length cb] 25 #[.slice an N.length cn, .slice at' T.length ct] 29) fun e w' => e = .returned (.tuple #[.agg #[.map none, .map none], .iface 78 (.int .i64 (sErr L B).2)]) ∧ Below (box2 w #[.slice ak L.length ck, .slice ab B.length cb] 25 #[.slice an N.length cn, .slice at' T.length ct] 29).heap.size (box2 w #[.slice ak L.length ck, .slice ab B.length cb] 25 #[.slice an N.length cn, .slice at' T.length ct] 29) w' := by
      refine c.mono ?_
      rintro e w' (⟨_, h⟩ | ⟨h, _⟩)
      · rw [errV_ne he] at h; exact h
      · exact absurd h he
    have HF : Hid (∀ W1, Below (box2 w #[.slice ak L.length ck, .slice ab B.length cb] 25 #[.slice an N.length cn, .slice at' T.length ct] 29).heap.size (box2 w #[.slice ak L.length ck, .slice ab B.length cb] 25 #[.slice an N.length cn, .slice at' T.length ct] 29) W1 → FaPost w (inE L B N T) (allF L B N T) (.returned (.tuple #[.slice none 0 0, .iface 78 (.int .i64 (sErr L B).2)])) (W1.alloc (.cells #[.map none, .map none] 56))) := fun W1 hB1 => by
      have := FaPost.bad (l := allF L B N T) (by rw [inE_s he]; exact he) (b_allocK (on1K HB0.out hB1 (Nat.le_refl _)) (Nat.le_refl _) (.cells #[.map none, .map none] 56)) (e0 := inE L B N T)
      rw [show errV (inE L B N T) = .iface 78 (.int .i64 (sErr L B).2) from by rw [inE_s he, errV_ne he]] at this
      exact this
    clear c hK hP hz hb hzb zN zT lN lT hz0
    have HE : Hid (¬ (sErr L B).2 = 0) := he
    clear he
    go_enter Try.func5, Try.ntmps5
    go_wp2_with (go_at_call 11; refine c'.mono ?_; rintro e W1 ⟨rfl, hB1⟩; refine Hid.out ?_)
    refine Lib.hid ?_
    have HG := Lib.hid (HF.out W1 hB1)
    clear c' hB1
    go_wp2
    go_ret2
    exact HG.out
end Go.Proofs.Ytjjnfnlkfojehaa
