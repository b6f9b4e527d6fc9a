/-
  The walk of session.New.
-/
import Derived.Test.YtikjmingkadjcaaGreatDoorA40
namespace Go.Proofs.YtikjmingkadjcaaGreatDoor
open Go.RowKit Go.Maps
set_option linter.unusedVariables false
set_option linter.unusedSimpArgs false

set_option maxHeartbeats 8000000 in
set_option maxRecDepth 100000 in
theorem snew_no {vs vg : Value} {L : List Kd} {B : List Bd} {N : List Nd} {T : List Te} {w : World} (hs : IsSc w vs L B) (hg : IsG w vg N T) (h : cfE L B N T ≠ 0) :
    Calls Tryz.prog 5 #[vs, vg] w fun e w' => e = .returned (.tuple #[.pointer none, .iface 79 (.int .i64 (cfE L B N T))]) ∧ Below w.heap.size w w' := by
  have HP : Hid (IsSc w vs L B ∧ IsG w vg N T) := ⟨hs, hg⟩
  obtain ⟨vk, vb, rfl, hK, hP, hz, hb, hzb⟩ := hs
  obtain ⟨vn, vt, rfl, hN, hT, zN, zT, lN, lT⟩ := hg
  obtain ⟨ak, ck, rfl, hl1⟩ := hK.sln
  obtain ⟨ab, cb, rfl, hl2⟩ := hb.sln
  obtain ⟨an, cn, rfl, _⟩ := hN
  obtain ⟨at', ct, rfl, _⟩ := hT
  have HB0 : Hid (Below w.heap.size w (box2 w #[.slice ak L.length ck, .slice ab B.length cb] 25 #[.slice an N.length cn, .slice at' T.length ct] 29)) := box2_below _ _ _ _ _
  have c := new_no (HP.out.1.on HB0.out) (HP.out.2.on HB0.out) h
  generalize cfE L B N T = z at c
  clear hK hP hz hb hzb zN zT lN lT hl1 hl2 h
  go_enter Tryz.func5, Tryz.ntmps5
  go_wp2_with (go_at_call 19; refine c.mono ?_; rintro e W1 ⟨rfl, hB1⟩)
  go_ret2
  exact ⟨rfl, on1K HB0.out hB1 (Nat.le_refl _)⟩

def NwS (W1 : World) (L : List Kd) (B : List Bd) (N : List Nd) (T : List Te) (s4 s5 : Value) (wx : World) : Prop :=
  ∃ p, s4 = .pointer (some ⟨p, 0, none⟩) ∧ s5 = .nilIface ∧ Be wx W1.heap.size p ⟨L, B, N, T, fun _ => none, 0, 0, 0, 0⟩ ∧ Below W1.heap.size W1 wx
theorem nwS_mk {W1 WA WB WC W4 : World} {L K : List Kd} {B : List Bd} {N M : List Nd} {T : List Te} {vk vb vn vt : Value} {mb : Nat}
    (h1 : K.map kq3 = L.map kq3 ∧ OwnKs WA W1.heap.size vk K ∧ OwnBs WA W1.heap.size vb B) (hA : Below WA.heap.size WA W4)
    (h2 : cN M = N ∧ OwnNs WB W1.heap.size vn M ∧ OwnTs WB W1.heap.size vt T) (hB : Below WB.heap.size WB W4)
    (h3 : WC.heap[mb]? = some (.map #[] 0)) (hm : W1.heap.size ≤ mb) (hC : Below WC.heap.size WC W4) (h4 : Below W1.heap.size W1 W4) :
    NwS W1 L B N T (.pointer (some ⟨W4.heap.size, 0, none⟩)) .nilIface (W4.alloc (.cells #[vk, vb, vn, vt, .map (some mb), .int .i64 0, .int .i64 0] 78)) := by
  have hb : Below W4.heap.size W4 (W4.alloc (.cells #[vk, vb, vn, vt, .map (some mb), .int .i64 0, .int .i64 0] 78)) := b_alloc (Below.refl _ _) _
  have kA : ∀ t, Kt t WA (W4.alloc (.cells #[vk, vb, vn, vt, .map (some mb), .int .i64 0, .int .i64 0] 78)) := fun t => (Kt.of_below hA).trans (.of_below hb)
  have kB : ∀ t, Kt t WB (W4.alloc (.cells #[vk, vb, vn, vt, .map (some mb), .int .i64 0, .int .i64 0] 78)) := fun t => (Kt.of_below hB).trans (.of_below hb)
  have hmb : (W4.alloc (.cells #[vk, vb, vn, vt, .map (some mb), .int .i64 0, .int .i64 0] 78)).heap[mb]? = some (.map #[] 0) := by
    have hlt := (Array.getElem?_eq_some_iff.1 h3).1
    rw [hb.block mb (Nat.lt_of_lt_of_le hlt hC.size), hC.block mb hlt, h3]
  refine ⟨_, rfl, rfl, ⟨⟨vk, vb, vn, vt, mb, K, M, fun _ => 0, fun _ => 0, fun _ => .nilIface⟩, heap_alloc_new W4 _, h4.size, hm, ⟨h1.1, h1.2.1.kt (kA _) (kA _) (kA _), own_kt h1.2.2 (kA _)⟩, ⟨h2.1, h2.2.1.kt (kB _) (kB _), h2.2.2.kt (kB _)⟩, smap_of hmb, fun i x hx => (by cases hx), fun i j hi => absurd rfl hi⟩, b_alloc h4 _⟩

set_option maxHeartbeats 8000000 in
set_option maxRecDepth 100000 in
theorem snew_yes {vs vg : Value} {L : List Kd} {B : List Bd} {N : List Nd} {T : List Te} {w : World} (hs : IsSc w vs L B) (hg : IsG w vg N T) (h : cfE L B N T = 0) :
    Calls Tryz.prog 5 #[vs, vg] w fun e w' => ∃ p, e = .returned (.tuple #[.pointer (some ⟨p, 0, none⟩), .nilIface]) ∧ Be w' w.heap.size p ⟨L, B, cN N, T, fun _ => none, 0, 0, 0, 0⟩ ∧ Below w.heap.size w w' := by
  obtain ⟨hs0, hg0, _⟩ := cfE_zero h
  obtain ⟨hk0, hGB, hb12⟩ := sErr_good.1 hs0
  have hl12 := ksErr_len hk0
  obtain ⟨l60, l120, hchk, _⟩ := gErr_lens hg0
  have HP : Hid (IsSc w vs L B ∧ IsG w vg N T) := ⟨hs, hg⟩
  obtain ⟨vk, vb, rfl, hK, hP, hz, hb, hzb⟩ := hs
  obtain ⟨vn, vt, rfl, hN, hT, zN, zT, lN, lT⟩ := hg
  have HS0 : Hid (IsK w vk L ∧ Parts w L ∧ SzK L ∧ IsB w vb B ∧ IsN w vn N ∧ IsT w vt T) := ⟨hK, hP, hz, hb, hN, hT⟩
  obtain ⟨ak, ck, rfl, hl1⟩ := hK.sln
  obtain ⟨ab, cb, rfl, hl2⟩ := hb.sln
  obtain ⟨an, cn, rfl, _⟩ := hN
  obtain ⟨at', ct, rfl, _⟩ := hT
  obtain ⟨W0, hW0⟩ : ∃ W0, W0 = box2 w #[.slice ak L.length ck, .slice ab B.length cb] 25 #[.slice an N.length cn, .slice at' T.length ct] 29 := ⟨_, rfl⟩
  have HB0 : Hid (Below w.heap.size w W0) := by rw [hW0]; exact box2_below _ _ _ _ _
  have x0 : W0.cell? ⟨w.heap.size, 0, none⟩ = some (.slice ak L.length ck) := by rw [hW0]; exact box2_a _ _ _ _ _ rfl
  have x1 : W0.cell? ⟨w.heap.size, 1, none⟩ = some (.slice ab B.length cb) := by rw [hW0]; exact box2_a _ _ _ _ _ rfl
  have x2 : W0.cell? ⟨w.heap.size + 1, 0, none⟩ = some (.slice an N.length cn) := by rw [hW0]; exact box2_b _ _ _ _ _ rfl
  have x3 : W0.cell? ⟨w.heap.size + 1, 1, none⟩ = some (.slice at' T.length ct) := by rw [hW0]; exact box2_b _ _ _ _ _ rfl
  have hs0' : W0.heap.size = w.heap.size + 2 := by rw [hW0]; exact box2_size _ _ _ _ _
  have HC : Hid (∀ W, Below W0.heap.size W0 W → Below w.heap.size w W ∧ W.cell? ⟨w.heap.size, 0, none⟩ = some (.slice ak L.length ck) ∧ W.cell? ⟨w.heap.size, 1, none⟩ = some (.slice ab B.length cb) ∧ W.cell? ⟨w.heap.size + 1, 0, none⟩ = some (.slice an N.length cn) ∧ W.cell? ⟨w.heap.size + 1, 1, none⟩ = some (.slice at' T.length ct)) := fun W hB =>
    ⟨on1K HB0.out hB (Nat.le_refl _), (hB.cell (p := ⟨w.heap.size, 0, none⟩) (by show w.heap.size < _; omega)).trans x0, (hB.cell (p := ⟨w.heap.size, 1, none⟩) (by show w.heap.size < _; omega)).trans x1, (hB.cell (p := ⟨w.heap.size + 1, 0, none⟩) (by show w.heap.size + 1 < _; omega)).trans x2, (hB.cell (p := ⟨w.heap.size + 1, 1, none⟩) (by show w.heap.size + 1 < _; omega)).trans x3⟩
  have c := new_yes (HP.out.1.on HB0.out) (HP.out.2.on HB0.out) h
  have hsm : ∀ k ∈ L, k.of.length ≤ 1000 ∧ k.fs.length ≤ 1000 := fun k hk => by
    obtain ⟨i, hi⟩ := List.mem_iff_getElem?.1 hk
    have := (kErr_zero ((ksErr_good.1 hk0).1 i k hi)).2.2.1
    omega
  have HS : Hid (∀ W1 W, Below W0.heap.size W0 W1 → Below W1.heap.size W1 W → Calls Tryz.prog 20 #[.agg #[.slice ak L.length ck, .slice ab B.length cb]] W fun e w' => ∃ a n c a' n' c' K, e = .returned (.agg #[.slice a n c, .slice a' n' c']) ∧ (K.map kq3 = L.map kq3 ∧ OwnKs w' W1.heap.size (.slice a n c) K ∧ OwnBs w' W1.heap.size (.slice a' n' c') B) ∧ Below W.heap.size W w' ∧ Below W1.heap.size W1 w' ∧ w'.cell? ⟨w.heap.size, 0, none⟩ = some (.slice ak L.length ck) ∧ w'.cell? ⟨w.heap.size, 1, none⟩ = some (.slice ab B.length cb) ∧ w'.cell? ⟨w.heap.size + 1, 0, none⟩ = some (.slice an N.length cn) ∧ w'.cell? ⟨w.heap.size + 1, 1, none⟩ = some (.slice at' T.length ct)) := fun W1 W h1 h2 => by
    have hw := on1K (HC.out W1 h1).1 h2 (Nat.le_refl _)
    refine (scopy_any (HS0.out.1.on hw) (HS0.out.2.1.on hw) (HS0.out.2.2.2.1.on hw) (by omega) (by omega) hsm).mono ?_
    rintro e w' ⟨uk, ub, K, rfl, q1, q2, q3, q4⟩
    obtain ⟨a, c, rfl⟩ := own_slice q2.1
    obtain ⟨a', c', rfl⟩ := own_slice q3
    have h3 := on1K h2 q4 (Nat.le_refl _)
    obtain ⟨_, y0, y1, y2, y3⟩ := HC.out w' (on1K h1 h3 (Nat.le_refl _))
    exact ⟨_, _, _, _, _, _, K, rfl, ⟨q1, q2.base h2.size, own_base q3 h2.size⟩, q4, h3, y0, y1, y2, y3⟩
  have HG : Hid (∀ W1 W, Below W0.heap.size W0 W1 → Below W1.heap.size W1 W → Calls Tryz.prog 21 #[.agg #[.slice an N.length cn, .slice at' T.length ct]] W fun e w' => ∃ a n c a' n' c' M, e = .returned (.agg #[.slice a n c, .slice a' n' c']) ∧ (cN M = cN N ∧ OwnNs w' W1.heap.size (.slice a n c) M ∧ OwnTs w' W1.heap.size (.slice a' n' c') T) ∧ Below W.heap.size W w' ∧ Below W1.heap.size W1 w' ∧ w'.cell? ⟨w.heap.size, 0, none⟩ = some (.slice ak L.length ck) ∧ w'.cell? ⟨w.heap.size, 1, none⟩ = some (.slice ab B.length cb) ∧ w'.cell? ⟨w.heap.size + 1, 0, none⟩ = some (.slice an N.length cn) ∧ w'.cell? ⟨w.heap.size + 1, 1, none⟩ = some (.slice at' T.length ct)) := fun W1 W h1 h2 => by
    have hw := on1K (HC.out W1 h1).1 h2 (Nat.le_refl _)
    refine (copied_any (HS0.out.2.2.2.2.1.on hw) (HS0.out.2.2.2.2.2.on hw) l60 l120 (fun n hn => by have := gErr_rc8 hg0 n hn; omega)).mono ?_
    rintro e w' ⟨un, ut, M, rfl, q1, q2, q3, q4⟩
    obtain ⟨a, c, rfl⟩ := own_slice q2.1
    obtain ⟨a', c', rfl⟩ := own_slice q3
    have h3 := on1K h2 q4 (Nat.le_refl _)
    obtain ⟨_, y0, y1, y2, y3⟩ := HC.out w' (on1K h1 h3 (Nat.le_refl _))
    exact ⟨_, _, _, _, _, _, M, rfl, ⟨q1, q2.base h2.size, own_base q3 h2.size⟩, q4, h3, y0, y1, y2, y3⟩
  clear hK hP hz hb hzb zN zT lN lT hl1 hl2 hsm hg0 hs0 hk0 hGB hchk h
  have hmm := @run_makeMap Tryz.prog
  go_enter Tryz.func5, Tryz.ntmps5
  go_upto_region 1 with fail
  unfold box2 at hW0
  rw [← hW0]
  clear hW0
  go_wp2_with (first | (go_at_call 19; refine c.mono ?_; rintro e W1 ⟨p0, rfl, hx0, hB1⟩; have HX := Lib.hid hx0; clear hx0; refine Hid.out ?_))
  refine Lib.hid ?_
  obtain ⟨hbw, y0, y1, y2, y3⟩ := HC.out W1 hB1
  have H1 := Lib.hid (And.intro hbw hB1)
  have hz1 : w.heap.size + 2 ≤ W1.heap.size := by have := hB1.size; omega
  have hn1 : ¬ w.heap.size = W1.heap.size := by omega
  have hm1 : ¬ w.heap.size + 1 = W1.heap.size := by omega
  clear hbw hB1 c x0 x1 x2 x3 HX
  go_upto_region 4 with fail
  have y4 := cell_old y0 (.map #[] 0)
  have y5 := cell_old y1 (.map #[] 0)
  have y6 := cell_old y2 (.map #[] 0)
  have y7 := cell_old y3 (.map #[] 0)
  go_cut [4, 5] (fun s4 s5 wx => NwS W1 L B (cN N) T s4 s5 wx)
  case first =>
    (go_region_law (first
      | (go_simp; go_at_call 20; refine (HS.out W1 _ H1.out.2 (by first | exact b_drew (Below.refl _ _) | exact hbg | exact b_alloc (b_drew (Below.refl _ _)) _ | exact b_alloc hbg _)).mono ?_; rintro e W2 ⟨a1, n1, c1, a2, n2, c2, K, rfl, hown, hbs', hbs, z0, z1, z2, z3⟩; have v2 := cell_old z2 (.map #[] 0); have v3 := cell_old z3 (.map #[] 0); have hz2 : w.heap.size + 2 ≤ W2.heap.size := Nat.le_trans hz1 hbs.size; have hn2 : ¬ w.heap.size = W2.heap.size := (by omega); have hm2 : ¬ w.heap.size + 1 = W2.heap.size := (by omega); have HO := Lib.hid (And.intro hown (And.intro hbs' hbs)); clear hown hbs')
      | (go_simp; go_at_call 21; refine (HG.out W1 _ H1.out.2 (by first | exact b_drew (Below.refl _ _) | exact hbs | exact b_alloc (b_drew (Below.refl _ _)) _ | exact b_alloc hbs _)).mono ?_; rintro e W3 ⟨a3, n3, c3, a4, n4, c4, M, rfl, hgr, hbg', hbg, z4, z5, z6, z7⟩; have hz3 : w.heap.size + 2 ≤ W3.heap.size := Nat.le_trans hz1 hbg.size; have hn3 : ¬ w.heap.size = W3.heap.size := (by omega); have hm3 : ¬ w.heap.size + 1 = W3.heap.size := (by omega); have HM := Lib.hid (And.intro hgr (And.intro hbg' hbg)); clear hgr hbg')))
    all_goals
      go_wp2
      go_meet
      first
        | (have k := nwS_mk (WC := W3.alloc (.map #[] 0)) HO.out.1 (b_alloc HM.out.2.1 _) HM.out.1 (b_alloc (Below.refl _ _) _) (heap_alloc_new W3 _) hbg.size (Below.refl _ _) (b_alloc hbg _); rw [World.size_alloc] at k; exact k)
        | exact nwS_mk (WC := W2.alloc (.map #[] 0)) HO.out.1 (on1K (b_alloc (Below.refl _ _) _) HM.out.2.1 (Nat.le_refl _)) HM.out.1 (Below.refl _ _) (heap_alloc_new W2 _) hbs.size HM.out.2.1 hbg
        | exact nwS_mk (WC := W1.alloc (.map #[] 0)) HO.out.1 HM.out.2.1 HM.out.1 (Below.refl _ _) (heap_alloc_new W1 _) (Nat.le_refl _) (on1K (b_undrew HO.out.2.1) HM.out.2.1 (Nat.le_refl _)) hbg
  case rest =>
  obtain ⟨p, rfl, rfl, hbe, hB⟩ := hcut
  go_wp2
  go_ret2
  exact ⟨p, rfl, hbe.base (by omega), on1K H1.out.1 hB (Nat.le_refl _)⟩
end Go.Proofs.YtikjmingkadjcaaGreatDoor
