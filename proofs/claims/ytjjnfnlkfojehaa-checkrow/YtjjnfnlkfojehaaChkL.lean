/-
  The walks of check.Conforms and check.NodeFaults.
-/
import Derived.Test.YtjjnfnlkfojehaaChkK
namespace Go.Proofs.Ytjjnfnlkfojehaa
open Go.RowKit
set_option linter.unusedVariables false
set_option linter.unusedSimpArgs false

/-- Does it conform? -/
def confB (L : List Kd) (B : List Bd) (N : List Nd) (T : List Te) : Bool := decide (inE L B N T = 0) && decide ((allF L B N T).length = 0)
set_option maxHeartbeats 8000000 in
set_option maxRecDepth 100000 in
theorem conforms_any {vs vg : Value} {L : List Kd} {B : List Bd} {N : List Nd} {T : List Te} {w : World} (hs : IsSc w vs L B) (hg : IsG w vg N T) : Calls Try.prog 6 #[vs, vg] w fun e w' => e = .returned (.tuple #[.bool (confB L B N T), errV (inE L B N T)]) ∧ Below w.heap.size w w' := by
  obtain ⟨vk, vb, rfl, hK, hP, hz, hb, hzb⟩ := hs
  obtain ⟨vn, vt, rfl, hN, hT, zN, zT, lN, lT⟩ := hg
  obtain ⟨ak, ck, rfl, hl1⟩ := hK.sln
  obtain ⟨ab, cb, rfl, hl2⟩ := hb.sln
  have HN : Hid (IsN w vn N ∧ IsT w vt T) := ⟨hN, hT⟩
  obtain ⟨an, cn, rfl, _⟩ := hN
  obtain ⟨at', ct, rfl, _⟩ := hT
  have HB0 : Hid (Below w.heap.size w (box2 w #[.slice ak L.length ck, .slice ab B.length cb] 25 #[.slice an N.length cn, .slice at' T.length ct] 29)) := box2_below _ _ _ _ _
  have c := faults_any (L := L) (B := B) (N := N) (T := T) (w := (box2 w #[.slice ak L.length ck, .slice ab B.length cb] 25 #[.slice an N.length cn, .slice at' T.length ct] 29)) ⟨_, _, rfl, hK.on HB0.out, hP.on HB0.out, hz, hb.on HB0.out, hzb⟩ ⟨_, _, rfl, HN.out.1.on HB0.out, HN.out.2.on HB0.out, zN, zT, lN, lT⟩
  by_cases he : inE L B N T = 0
  · have c' : Calls Try.prog 5 #[.agg #[.slice ak L.length ck, .slice ab B.length cb], .agg #[.slice an N.length cn, .slice at' T.length ct]] (box2 w #[.slice ak L.length ck, .slice ab B.length cb] 25 #[.slice an N.length cn, .slice at' T.length ct] 29) fun e w' => ∃ ao cp, e = .returned (.tuple #[.slice ao (allF L B N T).length cp, .nilIface]) ∧ Below (box2 w #[.slice ak L.length ck, .slice ab B.length cb] 25 #[.slice an N.length cn, .slice at' T.length ct] 29).heap.size (box2 w #[.slice ak L.length ck, .slice ab B.length cb] 25 #[.slice an N.length cn, .slice at' T.length ct] 29) w' := by
      refine c.mono ?_
      rintro e w' ⟨u, rfl, _, h2, h3⟩
      obtain ⟨ao, cp, rfl⟩ := own_slice (h2 he)
      exact ⟨ao, cp, by rw [he]; rfl, h3⟩
    have HE : Hid (confB L B N T = (((allF L B N T).length : Int) == 0) ∧ inE L B N T = 0) := by
      refine ⟨?_, he⟩
      unfold confB
      rw [he]
      simp only [decide_true, Bool.true_and]
      by_cases h : (allF L B N T).length = 0
      · rw [h]; rfl
      · have h' : ¬ ((allF L B N T).length : Int) = 0 := by omega
        simp [h, h']
    generalize (allF L B N T).length = m at c' HE
    clear c hK hP hz hb hzb zN zT lN lT he hl1 hl2
    go_enter Try.func6, Try.ntmps6
    go_wp2_with (go_at_call 5; refine c'.mono ?_; rintro e W1 ⟨ao, cp, rfl, hB1⟩)
    go_ret2
    exact ⟨ret_v (by rw [HE.out.1, HE.out.2]; rfl), on1K HB0.out hB1 (Nat.le_refl _)⟩
  · have c' : Calls Try.prog 5 #[.agg #[.slice ak L.length ck, .slice ab B.length cb], .agg #[.slice an N.length cn, .slice at' T.length ct]] (box2 w #[.slice ak L.length ck, .slice ab B.length cb] 25 #[.slice an N.length cn, .slice at' T.length ct] 29) fun e w' => e = .returned (.tuple #[.slice none 0 0, .iface 78 (.int .i64 (inE L B N T))]) ∧ Below (box2 w #[.slice ak L.length ck, .slice ab B.length cb] 25 #[.slice an N.length cn, .slice at' T.length ct] 29).heap.size (box2 w #[.slice ak L.length ck, .slice ab B.length cb] 25 #[.slice an N.length cn, .slice at' T.length ct] 29) w' := by
      refine c.mono ?_
      rintro e w' ⟨u, rfl, h1, _, h3⟩
      rw [h1 he, errV_ne he]
      exact ⟨rfl, h3⟩
    have HE : Hid (confB L B N T = false ∧ errV (inE L B N T) = .iface 78 (.int .i64 (inE L B N T))) := ⟨by unfold confB; simp [he], errV_ne he⟩
    clear c hK hP hz hb hzb zN zT lN lT he hl1 hl2
    go_enter Try.func6, Try.ntmps6
    go_wp2_with (go_at_call 5; refine c'.mono ?_; rintro e W1 ⟨rfl, hB1⟩)
    go_ret2
    exact ⟨ret_v (by rw [HE.out.1, HE.out.2]; rfl), on1K HB0.out hB1 (Nat.le_refl _)⟩
/-- The error of one node. -/
def oneE (L : List Kd) (B : List Bd) (n : Nd) : Int := if (sErr L B).2 = 0 then ndE none n else (sErr L B).2
theorem gErr_one (n : Nd) : gErr [n] [] = ndE none n := by
  unfold gErr
  rw [if_neg (by simp)]
  unfold chkN
  by_cases h : ndE none n = 0
  · rw [if_pos h, h]; rfl
  · rw [if_neg h, if_neg h]
theorem isN_new (w : World) (id : Int) (kd : ByteArray) (rv : Value) (rc : List Pr) (hr : IsR w rv rc) : IsN (w.alloc (.cells #[.int .i64 id, .string kd, rv] 33)) (.slice (some ⟨w.heap.size, 0, none⟩) 1 1) [⟨id, kd, rv, rc⟩] := by
  have hn := heap_alloc_new w (.cells #[.int .i64 id, .string kd, rv] 33)
  refine ⟨_, 1, rfl, Nat.le_refl _, .inr ⟨w.heap.size, 0, rfl, by simp, fun k n hk => ?_⟩⟩
  have hk0 : k = 0 := by
    have := (List.getElem?_eq_some_iff.1 hk).1
    simp at this
    exact this
  subst hk0
  obtain rfl : (⟨id, kd, rv, rc⟩ : Nd) = n := by simpa using hk
  exact ⟨cell_at hn rfl, cell_at hn rfl, cell_at hn rfl, hr.on (b_allocK (Below.refl _ _) (Nat.le_refl _) _)⟩
set_option maxHeartbeats 8000000 in
set_option maxRecDepth 100000 in
theorem nodeOne_any {vs : Value} {L : List Kd} {B : List Bd} {n : Nd} {w : World} (hs : IsSc w vs L B) (hr : IsR w n.rv n.rc) (hnz : n.kd.size ≤ maxLen ∧ Sz n.rc ∧ n.rc.length ≤ maxLen) : Calls Try.prog 7 #[vs, n.one] w (FaPost w (oneE L B n) (ownF (shO L B L n.kd) n (fun _ => none)).1) := by
  obtain ⟨vk, vb, rfl, hK, hP, hz, hb, hzb⟩ := hs
  obtain ⟨ak, ck, rfl, hl1⟩ := hK.sln
  obtain ⟨ab, cb, rfl, hl2⟩ := hb.sln
  obtain ⟨id, kd, rv, rc⟩ := n
  simp only at hr hnz ⊢
  have HR : Hid (IsR w rv rc ∧ (kd.size ≤ maxLen ∧ Sz rc ∧ rc.length ≤ maxLen) ∧ SzK L ∧ SzB B) := ⟨hr, hnz, hz, hzb⟩
  obtain ⟨av, cv, rfl, _⟩ := hr
  have HB0 : Hid (Below w.heap.size w (box2 w #[.slice ak L.length ck, .slice ab B.length cb] 25 #[.int .i64 id, .string kd, .slice av rc.length cv] 33)) := box2_below _ _ _ _ _
  have HZ0 : Hid ((box2 w #[.slice ak L.length ck, .slice ab B.length cb] 25 #[.int .i64 id, .string kd, .slice av rc.length cv] 33).heap.size = w.heap.size + 2 ∧ (box2 w #[.slice ak L.length ck, .slice ab B.length cb] 25 #[.int .i64 id, .string kd, .slice av rc.length cv] 33).heap[w.heap.size + 1]? = some (.cells #[.int .i64 id, .string kd, .slice av rc.length cv] 33 (0, 0))) := by
    refine ⟨box2_size _ _ _ _ _, ?_⟩
    have := heap_alloc_new (w.alloc (.cells #[.slice ak L.length ck, .slice ab B.length cb] 25)) (.cells #[.int .i64 id, .string kd, .slice av rc.length cv] 33)
    rwa [World.size_alloc] at this
  by_cases he : (sErr L B).2 = 0
  · have c := (planOf_ok (hK.on HB0.out) (hP.on HB0.out) hz (hb.on HB0.out) hzb he)
    have c' : Calls Try.prog 11 #[.agg #[.slice ak L.length ck, .slice ab B.length cb]] (box2 w #[.slice ak L.length ck, .slice ab B.length cb] 25 #[.int .i64 id, .string kd, .slice av rc.length cv] 33) fun e w' => ∃ b1 b2, e = .returned (.tuple #[.agg #[.map (some b1), .map (some b2)], .nilIface]) ∧ IsPl w' (.agg #[.map (some b1), .map (some b2)]) (shO L B L) (bdO B) ∧ Below (box2 w #[.slice ak L.length ck, .slice ab B.length cb] 25 #[.int .i64 id, .string kd, .slice av rc.length cv] 33).heap.size (box2 w #[.slice ak L.length ck, .slice ab B.length cb] 25 #[.int .i64 id, .string kd, .slice av rc.length cv] 33) w' := by
      refine c.mono ?_
      rintro e w' (⟨h, _⟩ | ⟨_, h⟩)
      · exact absurd he h
      · exact h
    have HE : Hid ((sErr L B).2 = 0 ∧ oneE L B (⟨id, kd, .slice av rc.length cv, rc⟩ : Nd) = ndE none (⟨id, kd, .slice av rc.length cv, rc⟩ : Nd)) := ⟨he, by unfold oneE; rw [if_pos he]⟩
    clear c hK hP hz hb hzb hnz he hl1 hl2
    have hmm := @run_makeMap Try.prog
    go_enter Try.func7, Try.ntmps7
    go_wp2_with (go_at_call 11; refine c'.mono ?_; rintro e W1 ⟨b1, b2, rfl, hPl, hB1⟩; refine Hid.out ?_)
    refine Lib.hid ?_
    have hw1 : w.heap.size + 2 ≤ W1.heap.size := by have := hB1.size; rw [HZ0.out.1] at this; exact this
    have hBp : Below W1.heap.size W1 (W1.alloc (.cells #[.map (some b1), .map (some b2)] 56)) := b_allocK (Below.refl _ _) (Nat.le_refl _) _
    have hBn : Below W1.heap.size W1 ((W1.alloc (.cells #[.map (some b1), .map (some b2)] 56)).alloc (.cells #[.int .i64 id, .string kd, .slice av rc.length cv] 33)) := b_allocK hBp (Nat.le_refl _) _
    have HB1 : Hid (Below w.heap.size w (W1.alloc (.cells #[.map (some b1), .map (some b2)] 56)) ∧ Below w.heap.size w ((W1.alloc (.cells #[.map (some b1), .map (some b2)] 56)).alloc (.cells #[.int .i64 id, .string kd, .slice av rc.length cv] 33))) := ⟨on1K (on1K HB0.out hB1 (Nat.le_refl _)) hBp (Nat.le_refl _), on1K (on1K HB0.out hB1 (Nat.le_refl _)) hBn (Nat.le_refl _)⟩
    have HPl : Hid (IsPl ((W1.alloc (.cells #[.map (some b1), .map (some b2)] 56)).alloc (.cells #[.int .i64 id, .string kd, .slice av rc.length cv] 33)) (.agg #[.map (some b1), .map (some b2)]) (shO L B L) (bdO B)) := hPl.on hBn
    have hq : (W1.alloc (.cells #[.map (some b1), .map (some b2)] 56)).heap[w.heap.size + 1]? = some (.cells #[.int .i64 id, .string kd, .slice av rc.length cv] 33 (0, 0)) := (hBp.block _ (by omega)).trans ((hB1.block _ (by rw [HZ0.out.1]; omega)).trans HZ0.out.2)
    have HQ : Hid (((W1.alloc (.cells #[.map (some b1), .map (some b2)] 56)).alloc (.cells #[.int .i64 id, .string kd, .slice av rc.length cv] 33)).heap[w.heap.size + 1]? = some (.cells #[.int .i64 id, .string kd, .slice av rc.length cv] 33 (0, 0)) ∧ ((W1.alloc (.cells #[.map (some b1), .map (some b2)] 56)).alloc (.cells #[.int .i64 id, .string kd, .slice av rc.length cv] 33)).heap[W1.heap.size]? = some (.cells #[.map (some b1), .map (some b2)] 56 (0, 0)) ∧ ((W1.alloc (.cells #[.map (some b1), .map (some b2)] 56)).alloc (.cells #[.int .i64 id, .string kd, .slice av rc.length cv] 33)).heap.size = W1.heap.size + 2) := ⟨(Below.heap_alloc _ _ _ (by simp; omega)).trans hq, (Below.heap_alloc _ _ _ (by simp)).trans (heap_alloc_new W1 _), by simp⟩
    have o0 := cell_at (i := 0) hq rfl
    have o1 := cell_at (i := 1) hq rfl
    have o2 := cell_at (i := 2) hq rfl
    have cg := gcheck_any (w := ((W1.alloc (.cells #[.map (some b1), .map (some b2)] 56)).alloc (.cells #[.int .i64 id, .string kd, .slice av rc.length cv] 33))) (N := [(⟨id, kd, .slice av rc.length cv, rc⟩ : Nd)]) (T := []) (vt := .slice none 0 0) (by
      have := isN_new (W1.alloc (.cells #[.map (some b1), .map (some b2)] 56)) id kd (.slice av rc.length cv) rc (HR.out.1.on HB1.out.1)
      rw [World.size_alloc] at this
      exact this) ⟨none, 0, rfl, Nat.le_refl _, .inl rfl⟩ (fun n hn => by
        obtain rfl : n = (⟨id, kd, .slice av rc.length cv, rc⟩ : Nd) := by simpa using hn
        exact HR.out.2.1) (fun t ht => by simp at ht) (by simp [maxLen]) (Nat.zero_le _)
    rw [gErr_one] at cg
    clear c' hPl hB1 hBp hBn hq
    by_cases hge : ndE none (⟨id, kd, .slice av rc.length cv, rc⟩ : Nd) = 0
    · rw [hge, errV_0] at cg
      have HG : Hid (ndE none (⟨id, kd, .slice av rc.length cv, rc⟩ : Nd) = 0) := hge
      clear hge
      go_wp2_with (go_at_call 12; refine cg.mono ?_; rintro e W2 ⟨rfl, hB2⟩; refine Hid.out ?_)
      refine Lib.hid ?_
      have hs2 : W1.heap.size + 2 ≤ W2.heap.size := by have := hB2.size; rw [HQ.out.2.2] at this; exact this
      have hq3 : W2.heap[w.heap.size + 1]? = some (.cells #[.int .i64 id, .string kd, .slice av rc.length cv] 33 (0, 0)) := (hB2.block _ (by rw [HQ.out.2.2]; omega)).trans HQ.out.1
      have hp3 : W2.heap[W1.heap.size]? = some (.cells #[.map (some b1), .map (some b2)] 56 (0, 0)) := (hB2.block _ (by rw [HQ.out.2.2]; omega)).trans HQ.out.2.1
      have q0 := cell_at (i := 0) hq3 rfl
      have q1 := cell_at (i := 1) hq3 rfl
      have q2 := cell_at (i := 2) hq3 rfl
      have p0 := cell_at (i := 0) hp3 rfl
      have p1 := cell_at (i := 1) hp3 rfl
      have hB3 : Below W2.heap.size W2 (W2.alloc (.map #[] 0)) := b_allocK (Below.refl _ _) (Nat.le_refl _) _
      have hBw3 : Below w.heap.size w (W2.alloc (.map #[] 0)) := on1K (on1K HB1.out.2 hB2 (Nat.le_refl _)) hB3 (Nat.le_refl _)
      have c15 := ownFaults_any (n := (⟨id, kd, .slice av rc.length cv, rc⟩ : Nd)) (T := fun _ => none) (bt := W2.heap.size) ((HPl.out.on hB2).on hB3) (shO_ok HE.out.1 HR.out.2.2.1 HR.out.2.2.2) (HR.out.1.on hBw3) (nd_ok HG.out HR.out.2.1) (OwnM.made W2)
      have HF : Hid (∀ u W4, OwnX W4 (W2.alloc (.map #[] 0)).heap.size u (ownF (shO L B L kd) (⟨id, kd, .slice av rc.length cv, rc⟩ : Nd) (fun _ => none)).1 → World.grownBy (W2.alloc (.map #[] 0)) W4 (some W2.heap.size) → FaPost w (oneE L B (⟨id, kd, .slice av rc.length cv, rc⟩ : Nd)) (ownF (shO L B L kd) (⟨id, kd, .slice av rc.length cv, rc⟩ : Nd) (fun _ => none)).1 (.returned (.tuple #[u, .nilIface])) W4) := fun u W4 hX hG => by
        have e0 : oneE L B (⟨id, kd, .slice av rc.length cv, rc⟩ : Nd) = 0 := HE.out.2.trans HG.out
        have hz : w.heap.size ≤ W2.heap.size := by omega
        exact ⟨u, by rw [e0]; rfl, fun h => absurd e0 h, fun _ => own_mono hX (by rw [World.size_alloc]; omega), hBw3.trans (below_but hG (by rw [World.size_alloc]; omega) hz)⟩
      have HC15 : Hid (Calls Try.prog 15 #[.agg #[.map (some b1), .map (some b2)], .agg #[.int .i64 id, .string kd, .slice av rc.length cv], .map (some W2.heap.size)] (W2.alloc (.map #[] 0)) (FfPost (W2.alloc (.map #[] 0)) W2.heap.size (ownF (shO L B L kd) (⟨id, kd, .slice av rc.length cv, rc⟩ : Nd) (fun _ => none)).1 (ownF (shO L B L kd) (⟨id, kd, .slice av rc.length cv, rc⟩ : Nd) (fun _ => none)).2)) := c15
      clear cg hB2 hB3 hBw3 hq3 hp3 c15 o0 o1 o2
      go_wp2_with (go_at_call 15; refine HC15.out.mono ?_; rintro e W4 ⟨u, rfl, hX, _, hG⟩; have HFin := Lib.hid (HF.out u W4 hX hG); clear hX hG)
      go_ret2
      exact HFin.out
    · rw [errV_ne hge] at cg
      have HG : Hid (¬ ndE none (⟨id, kd, .slice av rc.length cv, rc⟩ : Nd) = 0) := hge
      clear hge
      go_wp2_with (go_at_call 12; refine cg.mono ?_; rintro e W2 ⟨rfl, hB2⟩; refine Hid.out ?_)
      refine Lib.hid ?_
      have HF : Hid (FaPost w (oneE L B (⟨id, kd, .slice av rc.length cv, rc⟩ : Nd)) (ownF (shO L B L kd) (⟨id, kd, .slice av rc.length cv, rc⟩ : Nd) (fun _ => none)).1 (.returned (.tuple #[.slice none 0 0, .iface 78 (.int .i64 (ndE none (⟨id, kd, .slice av rc.length cv, rc⟩ : Nd)))])) W2) := by
        have := FaPost.bad (l := (ownF (shO L B L kd) (⟨id, kd, .slice av rc.length cv, rc⟩ : Nd) (fun _ => none)).1) (by rw [HE.out.2]; exact HG.out) (on1K HB1.out.2 hB2 (Nat.le_refl _)) (e0 := oneE L B (⟨id, kd, .slice av rc.length cv, rc⟩ : Nd))
        rw [show errV (oneE L B (⟨id, kd, .slice av rc.length cv, rc⟩ : Nd)) = .iface 78 (.int .i64 (ndE none (⟨id, kd, .slice av rc.length cv, rc⟩ : Nd))) from by rw [HE.out.2, errV_ne HG.out]] at this
        exact this
      generalize ndE none (⟨id, kd, .slice av rc.length cv, rc⟩ : Nd) = ee at HF ⊢
      clear cg hB2
      go_wp2
      go_ret2
      exact HF.out
  · have c := (planOf_bad (hK.on HB0.out) (hP.on HB0.out) hz (hb.on HB0.out) hzb he)
    have c' : Calls Try.prog 11 #[.agg #[.slice ak L.length ck, .slice ab B.length cb]] (box2 w #[.slice ak L.length ck, .slice ab B.length cb] 25 #[.int .i64 id, .string kd, .slice av rc.length cv] 33) fun e w' => e = .returned (.tuple #[.agg #[.map none, .map none], .iface 78 (.int .i64 (sErr L B).2)]) ∧ Below (box2 w #[.slice ak L.length ck, .slice ab B.length cb] 25 #[.int .i64 id, .string kd, .slice av rc.length cv] 33).heap.size (box2 w #[.slice ak L.length ck, .slice ab B.length cb] 25 #[.int .i64 id, .string kd, .slice av rc.length cv] 33) w' := by
      refine c.mono ?_
      rintro e w' (⟨_, h⟩ | ⟨h, _⟩)
      · rw [errV_ne he] at h; exact h
      · exact absurd h he
    have HF : Hid (∀ W1, Below (box2 w #[.slice ak L.length ck, .slice ab B.length cb] 25 #[.int .i64 id, .string kd, .slice av rc.length cv] 33).heap.size (box2 w #[.slice ak L.length ck, .slice ab B.length cb] 25 #[.int .i64 id, .string kd, .slice av rc.length cv] 33) W1 → FaPost w (oneE L B (⟨id, kd, .slice av rc.length cv, rc⟩ : Nd)) (ownF (shO L B L kd) (⟨id, kd, .slice av rc.length cv, rc⟩ : Nd) (fun _ => none)).1 (.returned (.tuple #[.slice none 0 0, .iface 78 (.int .i64 (sErr L B).2)])) (W1.alloc (.cells #[.map none, .map none] 56))) := fun W1 hB1 => by
      have e0 : oneE L B (⟨id, kd, .slice av rc.length cv, rc⟩ : Nd) = (sErr L B).2 := by unfold oneE; rw [if_neg he]
      have := FaPost.bad (l := (ownF (shO L B L kd) (⟨id, kd, .slice av rc.length cv, rc⟩ : Nd) (fun _ => none)).1) (by rw [e0]; exact he) (b_allocK (on1K HB0.out hB1 (Nat.le_refl _)) (Nat.le_refl _) (.cells #[.map none, .map none] 56)) (e0 := oneE L B (⟨id, kd, .slice av rc.length cv, rc⟩ : Nd))
      rw [show errV (oneE L B (⟨id, kd, .slice av rc.length cv, rc⟩ : Nd)) = .iface 78 (.int .i64 (sErr L B).2) from by rw [e0, errV_ne he]] at this
      exact this
    clear c hK hP hz hb hzb hnz hl1 hl2
    have HE : Hid (¬ (sErr L B).2 = 0) := he
    clear he
    go_enter Try.func7, Try.ntmps7
    go_wp2_with (go_at_call 11; refine c'.mono ?_; rintro e W1 ⟨rfl, hB1⟩; refine Hid.out ?_)
    refine Lib.hid ?_
    have HG := Lib.hid (HF.out W1 hB1)
    clear c' hB1
    go_wp2
    go_ret2
    exact HG.out
end Go.Proofs.Ytjjnfnlkfojehaa
