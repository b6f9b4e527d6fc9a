/-
  The walk of session.New.
-/
import Derived.Test.YtifhigajonafdaaGreatS39
import Derived.Test.YtifhigajonafdaaGreatS07
import Derived.Laws.StructEq
import Derived.Deep.RegionHeld
import Derived.BigQuiet
namespace Go.Proofs.YtifhigajonafdaaGreat
open Go.RowKit Go.Maps
set_option linter.unusedVariables false
set_option linter.unusedSimpArgs false

set_option maxHeartbeats 8000000 in
set_option maxRecDepth 100000 in
theorem snew_no {vs vg : Value} {L : List Kd} {B : List Bd} {N : List Nd} {T : List Te} {w : World} (hs : IsSc w vs L B) (hg : IsG w vg N T) (h : cfE L B N T ≠ 0) :
    Calls Tryz.prog 4 #[vs, vg] w fun e w' => e = .returned (.tuple #[.pointer none, .iface 74 (.int .i64 (cfE L B N T))]) ∧ Below w.heap.size w w' := by
  have HP : Hid (IsSc w vs L B ∧ IsG w vg N T) := ⟨hs, hg⟩
  obtain ⟨vk, vb, rfl, hK, hP, hz, hb, hzb⟩ := hs
  obtain ⟨vn, vt, rfl, hN, hT, zN, zT, lN, lT⟩ := hg
  obtain ⟨ak, ck, rfl, hl1⟩ := hK.sln
  obtain ⟨ab, cb, rfl, hl2⟩ := hb.sln
  obtain ⟨an, cn, rfl, _⟩ := hN
  obtain ⟨at', ct, rfl, _⟩ := hT
  have HB0 : Hid (Below w.heap.size w (box2 w #[.slice ak L.length ck, .slice ab B.length cb] 25 #[.slice an N.length cn, .slice at' T.length ct] 29)) := box2_below _ _ _ _ _
  have c := new_no (HP.out.1.on HB0.out) (HP.out.2.on HB0.out) h
  generalize cfE L B N T = z at c
  clear hK hP hz hb hzb zN zT lN lT hl1 hl2 h
  go_enter Tryz.func4, Tryz.ntmps4
  go_wp2_with (go_at_call 15; refine c.mono ?_; rintro e W1 ⟨rfl, hB1⟩)
  go_ret2
  exact ⟨rfl, on1K HB0.out hB1 (Nat.le_refl _)⟩

def NwS (W1 : World) (L : List Kd) (B : List Bd) (N : List Nd) (T : List Te) (s4 s5 : Value) (wx : World) : Prop :=
  ∃ p, s4 = .pointer (some ⟨p, 0, none⟩) ∧ s5 = .nilIface ∧ Be wx W1.heap.size p ⟨L, B, N, T, fun _ => none, 0, 0, 0, 0⟩ ∧ Below W1.heap.size W1 wx
theorem nwS_mk {W1 WA WB WC W4 : World} {L K : List Kd} {B : List Bd} {N M : List Nd} {T : List Te} {vk vb vn vt : Value} {mb : Nat}
    (h1 : K.map kq3 = L.map kq3 ∧ OwnKs WA W1.heap.size vk K ∧ OwnBs WA W1.heap.size vb B) (hA : Below WA.heap.size WA W4)
    (h2 : cN M = N ∧ OwnNs WB W1.heap.size vn M ∧ OwnTs WB W1.heap.size vt T) (hB : Below WB.heap.size WB W4)
    (h3 : WC.heap[mb]? = some (.map #[] 0)) (hm : W1.heap.size ≤ mb) (hC : Below WC.heap.size WC W4) (h4 : Below W1.heap.size W1 W4) :
    NwS W1 L B N T (.pointer (some ⟨W4.heap.size, 0, none⟩)) .nilIface (W4.alloc (.cells #[vk, vb, vn, vt, .map (some mb), .int .i64 0, .int .i64 0] 73)) := by
  have hb : Below W4.heap.size W4 (W4.alloc (.cells #[vk, vb, vn, vt, .map (some mb), .int .i64 0, .int .i64 0] 73)) := b_alloc (Below.refl _ _) _
  have kA : ∀ t, Kt t WA (W4.alloc (.cells #[vk, vb, vn, vt, .map (some mb), .int .i64 0, .int .i64 0] 73)) := fun t => (Kt.of_below hA).trans (.of_below hb)
  have kB : ∀ t, Kt t WB (W4.alloc (.cells #[vk, vb, vn, vt, .map (some mb), .int .i64 0, .int .i64 0] 73)) := fun t => (Kt.of_below hB).trans (.of_below hb)
  have hmb : (W4.alloc (.cells #[vk, vb, vn, vt, .map (some mb), .int .i64 0, .int .i64 0] 73)).heap[mb]? = some (.map #[] 0) := by
    have hlt := (Array.getElem?_eq_some_iff.1 h3).1
    rw [hb.block mb (Nat.lt_of_lt_of_le hlt hC.size), hC.block mb hlt, h3]
  refine ⟨_, rfl, rfl, ⟨⟨vk, vb, vn, vt, mb, K, M, fun _ => 0, fun _ => 0, fun _ => .nilIface⟩, heap_alloc_new W4 _, h4.size, hm, ⟨h1.1, h1.2.1.kt (kA _) (kA _) (kA _), own_kt h1.2.2 (kA _)⟩, ⟨h2.1, h2.2.1.kt (kB _) (kB _), h2.2.2.kt (kB _)⟩, smap_of hmb, fun i x hx => (by cases hx), fun i j hi => absurd rfl hi⟩, b_alloc h4 _⟩

set_option maxHeartbeats 8000000 in
set_option maxRecDepth 100000 in
theorem snew_yes {vs vg : Value} {L : List Kd} {B : List Bd} {N : List Nd} {T : List Te} {w : World} (hs : IsSc w vs L B) (hg : IsG w vg N T) (h : cfE L B N T = 0) :
    Calls Tryz.prog 4 #[vs, vg] w fun e w' => ∃ p, e = .returned (.tuple #[.pointer (some ⟨p, 0, none⟩), .nilIface]) ∧ Be w' w.heap.size p ⟨L, B, cN N, T, fun _ => none, 0, 0, 0, 0⟩ ∧ Below w.heap.size w w' := by
  obtain ⟨hs0, hg0, _⟩ := cfE_zero h
  obtain ⟨hk0, hGB, hb12⟩ := sErr_good.1 hs0
  have hl12 := ksErr_len hk0
  obtain ⟨l60, l120, hchk, _⟩ := gErr_lens hg0
  have HP : Hid (IsSc w vs L B ∧ IsG w vg N T) := ⟨hs, hg⟩
  obtain ⟨vk, vb, rfl, hK, hP, hz, hb, hzb⟩ := hs
  obtain ⟨vn, vt, rfl, hN, hT, zN, zT, lN, lT⟩ := hg
  have HS0 : Hid (IsK w vk L ∧ Parts w L ∧ SzK L ∧ IsB w vb B ∧ IsN w vn N ∧ IsT w vt T) := ⟨hK, hP, hz, hb, hN, hT⟩
  obtain ⟨ak, ck, rfl, hl1⟩ := hK.sln
  obtain ⟨ab, cb, rfl, hl2⟩ := hb.sln
  obtain ⟨an, cn, rfl, _⟩ := hN
  obtain ⟨at', ct, rfl, _⟩ := hT
  obtain ⟨W0, hW0⟩ : ∃ W0, W0 = box2 w #[.slice ak L.length ck, .slice ab B.length cb] 25 #[.slice an N.length cn, .slice at' T.length ct] 29 := ⟨_, rfl⟩
  have HB0 : Hid (Below w.heap.size w W0) := by rw [hW0]; exact box2_below _ _ _ _ _
  have x0 : W0.cell? ⟨w.heap.size, 0, none⟩ = some (.slice ak L.length ck) := by rw [hW0]; exact box2_a _ _ _ _ _ rfl
  have x1 : W0.cell? ⟨w.heap.size, 1, none⟩ = some (.slice ab B.length cb) := by rw [hW0]; exact box2_a _ _ _ _ _ rfl
  have x2 : W0.cell? ⟨w.heap.size + 1, 0, none⟩ = some (.slice an N.length cn) := by rw [hW0]; exact box2_b _ _ _ _ _ rfl
  have x3 : W0.cell? ⟨w.heap.size + 1, 1, none⟩ = some (.slice at' T.length ct) := by rw [hW0]; exact box2_b _ _ _ _ _ rfl
  have hs0' : W0.heap.size = w.heap.size + 2 := by rw [hW0]; exact box2_size _ _ _ _ _
  have HC : Hid (∀ W, Below W0.heap.size W0 W → Below w.heap.size w W ∧ W.cell? ⟨w.heap.size, 0, none⟩ = some (.slice ak L.length ck) ∧ W.cell? ⟨w.heap.size, 1, none⟩ = some (.slice ab B.length cb) ∧ W.cell? ⟨w.heap.size + 1, 0, none⟩ = some (.slice an N.length cn) ∧ W.cell? ⟨w.heap.size + 1, 1, none⟩ = some (.slice at' T.length ct)) := fun W hB =>
    ⟨on1K HB0.out hB (Nat.le_refl _), (hB.cell (p := ⟨w.heap.size, 0, none⟩) (by show w.heap.size < _; omega)).trans x0, (hB.cell (p := ⟨w.heap.size, 1, none⟩) (by show w.heap.size < _; omega)).trans x1, (hB.cell (p := ⟨w.heap.size + 1, 0, none⟩) (by show w.heap.size + 1 < _; omega)).trans x2, (hB.cell (p := ⟨w.heap.size + 1, 1, none⟩) (by show w.heap.size + 1 < _; omega)).trans x3⟩
  have c := new_yes (HP.out.1.on HB0.out) (HP.out.2.on HB0.out) h
  have hsm : ∀ k ∈ L, k.of.length ≤ 1000 ∧ k.fs.length ≤ 1000 := fun k hk => by
    obtain ⟨i, hi⟩ := List.mem_iff_getElem?.1 hk
    have := (kErr_zero ((ksErr_good.1 hk0).1 i k hi)).2.2.1
    omega
  have HS : Hid (∀ W1 W, Below W0.heap.size W0 W1 → Below W1.heap.size W1 W → Calls Tryz.prog 16 #[.agg #[.slice ak L.length ck, .slice ab B.length cb]] W fun e w' => ∃ a n c a' n' c' K, e = .returned (.agg #[.slice a n c, .slice a' n' c']) ∧ (K.map kq3 = L.map kq3 ∧ OwnKs w' W1.heap.size (.slice a n c) K ∧ OwnBs w' W1.heap.size (.slice a' n' c') B) ∧ Below W.heap.size W w' ∧ Below W1.heap.size W1 w' ∧ w'.cell? ⟨w.heap.size, 0, none⟩ = some (.slice ak L.length ck) ∧ w'.cell? ⟨w.heap.size, 1, none⟩ = some (.slice ab B.length cb) ∧ w'.cell? ⟨w.heap.size + 1, 0, none⟩ = some (.slice an N.length cn) ∧ w'.cell? ⟨w.heap.size + 1, 1, none⟩ = some (.slice at' T.length ct)) := fun W1 W h1 h2 => by
    have hw := on1K (HC.out W1 h1).1 h2 (Nat.le_refl _)
    refine (scopy_any (HS0.out.1.on hw) (HS0.out.2.1.on hw) (HS0.out.2.2.2.1.on hw) (by omega) (by omega) hsm).mono ?_
    rintro e w' ⟨uk, ub, K, rfl, q1, q2, q3, q4⟩
    obtain ⟨a, c, rfl⟩ := own_slice q2.1
    obtain ⟨a', c', rfl⟩ := own_slice q3
    have h3 := on1K h2 q4 (Nat.le_refl _)
    obtain ⟨_, y0, y1, y2, y3⟩ := HC.out w' (on1K h1 h3 (Nat.le_refl _))
    exact ⟨_, _, _, _, _, _, K, rfl, ⟨q1, q2.base h2.size, own_base q3 h2.size⟩, q4, h3, y0, y1, y2, y3⟩
  have HG : Hid (∀ W1 W, Below W0.heap.size W0 W1 → Below W1.heap.size W1 W → Calls Tryz.prog 17 #[.agg #[.slice an N.length cn, .slice at' T.length ct]] W fun e w' => ∃ a n c a' n' c' M, e = .returned (.agg #[.slice a n c, .slice a' n' c']) ∧ (cN M = cN N ∧ OwnNs w' W1.heap.size (.slice a n c) M ∧ OwnTs w' W1.heap.size (.slice a' n' c') T) ∧ Below W.heap.size W w' ∧ Below W1.heap.size W1 w' ∧ w'.cell? ⟨w.heap.size, 0, none⟩ = some (.slice ak L.length ck) ∧ w'.cell? ⟨w.heap.size, 1, none⟩ = some (.slice ab B.length cb) ∧ w'.cell? ⟨w.heap.size + 1, 0, none⟩ = some (.slice an N.length cn) ∧ w'.cell? ⟨w.heap.size + 1, 1, none⟩ = some (.slice at' T.length ct)) := fun W1 W h1 h2 => by
    have hw := on1K (HC.out W1 h1).1 h2 (Nat.le_refl _)
    refine (copied_any (HS0.out.2.2.2.2.1.on hw) (HS0.out.2.2.2.2.2.on hw) l60 l120 (fun n hn => by have := gErr_rc8 hg0 n hn; omega)).mono ?_
    rintro e w' ⟨un, ut, M, rfl, q1, q2, q3, q4⟩
    obtain ⟨a, c, rfl⟩ := own_slice q2.1
    obtain ⟨a', c', rfl⟩ := own_slice q3
    have h3 := on1K h2 q4 (Nat.le_refl _)
    obtain ⟨_, y0, y1, y2, y3⟩ := HC.out w' (on1K h1 h3 (Nat.le_refl _))
    exact ⟨_, _, _, _, _, _, M, rfl, ⟨q1, q2.base h2.size, own_base q3 h2.size⟩, q4, h3, y0, y1, y2, y3⟩
  clear hK hP hz hb hzb zN zT lN lT hl1 hl2 hsm hg0 hs0 hk0 hGB hchk h
  have hmm := @run_makeMap Tryz.prog
  go_enter Tryz.func4, Tryz.ntmps4
  go_upto_region 1 with fail
  unfold box2 at hW0
  rw [← hW0]
  clear hW0
  go_wp2_with (first | (go_at_call 15; refine c.mono ?_; rintro e W1 ⟨p0, rfl, hx0, hB1⟩; have HX := Lib.hid hx0; clear hx0; refine Hid.out ?_))
  refine Lib.hid ?_
  obtain ⟨hbw, y0, y1, y2, y3⟩ := HC.out W1 hB1
  have H1 := Lib.hid (And.intro hbw hB1)
  have hz1 : w.heap.size + 2 ≤ W1.heap.size := by have := hB1.size; omega
  have hn1 : ¬ w.heap.size = W1.heap.size := by omega
  have hm1 : ¬ w.heap.size + 1 = W1.heap.size := by omega
  clear hbw hB1 c x0 x1 x2 x3 HX
  go_upto_region 4 with fail
  have y4 := cell_old y0 (.map #[] 0)
  have y5 := cell_old y1 (.map #[] 0)
  have y6 := cell_old y2 (.map #[] 0)
  have y7 := cell_old y3 (.map #[] 0)
  go_cut [4, 5] (fun s4 s5 wx => NwS W1 L B (cN N) T s4 s5 wx)
  case first =>
    (go_region_law (first
      | (go_simp; go_at_call 16; refine (HS.out W1 _ H1.out.2 (by first | exact b_drew (Below.refl _ _) | exact hbg | exact b_alloc (b_drew (Below.refl _ _)) _ | exact b_alloc hbg _)).mono ?_; rintro e W2 ⟨a1, n1, c1, a2, n2, c2, K, rfl, hown, hbs', hbs, z0, z1, z2, z3⟩; have v2 := cell_old z2 (.map #[] 0); have v3 := cell_old z3 (.map #[] 0); have hz2 : w.heap.size + 2 ≤ W2.heap.size := Nat.le_trans hz1 hbs.size; have hn2 : ¬ w.heap.size = W2.heap.size := (by omega); have hm2 : ¬ w.heap.size + 1 = W2.heap.size := (by omega); have HO := Lib.hid (And.intro hown (And.intro hbs' hbs)); clear hown hbs')
      | (go_simp; go_at_call 17; refine (HG.out W1 _ H1.out.2 (by first | exact b_drew (Below.refl _ _) | exact hbs | exact b_alloc (b_drew (Below.refl _ _)) _ | exact b_alloc hbs _)).mono ?_; rintro e W3 ⟨a3, n3, c3, a4, n4, c4, M, rfl, hgr, hbg', hbg, z4, z5, z6, z7⟩; have hz3 : w.heap.size + 2 ≤ W3.heap.size := Nat.le_trans hz1 hbg.size; have hn3 : ¬ w.heap.size = W3.heap.size := (by omega); have hm3 : ¬ w.heap.size + 1 = W3.heap.size := (by omega); have HM := Lib.hid (And.intro hgr (And.intro hbg' hbg)); clear hgr hbg')))
    all_goals
      go_wp2
      go_meet
      first
        | (have k := nwS_mk (WC := W3.alloc (.map #[] 0)) HO.out.1 (b_alloc HM.out.2.1 _) HM.out.1 (b_alloc (Below.refl _ _) _) (heap_alloc_new W3 _) hbg.size (Below.refl _ _) (b_alloc hbg _); rw [World.size_alloc] at k; exact k)
        | exact nwS_mk (WC := W2.alloc (.map #[] 0)) HO.out.1 (on1K (b_alloc (Below.refl _ _) _) HM.out.2.1 (Nat.le_refl _)) HM.out.1 (Below.refl _ _) (heap_alloc_new W2 _) hbs.size HM.out.2.1 hbg
        | exact nwS_mk (WC := W1.alloc (.map #[] 0)) HO.out.1 HM.out.2.1 HM.out.1 (Below.refl _ _) (heap_alloc_new W1 _) (Nat.le_refl _) (on1K (b_undrew HO.out.2.1) HM.out.2.1 (Nat.le_refl _)) hbg
  case rest =>
  obtain ⟨p, rfl, rfl, hbe, hB⟩ := hcut
  go_wp2
  go_ret2
  exact ⟨p, rfl, hbe.base (by omega), on1K H1.out.1 hB (Nat.le_refl _)⟩
end Go.Proofs.YtifhigajonafdaaGreat

/-
  The walks of kinsame.Record, Node and Graph where both are the same.
-/
namespace Go.Proofs.YtifhigajonafdaaGreat
open Go.RowKit
set_option linter.unusedVariables false
set_option linter.unusedSimpArgs false

theorem strP : Tryz.prog.underlying 52 = some (.struct (Tryz.prog.fieldsOf 52)) := by kernel_rfl
theorem strV : Tryz.prog.underlying 50 = some (.struct (Tryz.prog.fieldsOf 50)) := by kernel_rfl
theorem hpPm : Tryz.prog.stoodInHeld 52 = false := by kernel_rfl
theorem hpV : Tryz.prog.stoodInHeld 50 = false := by kernel_rfl
theorem egP45 : Tryz.prog.eqGuardType Tryz.prog.depth 52 = false := by kernel_rfl
theorem eqV_any (t n t' n' : Int) (s s' : ByteArray) (d : Nat) (w : World) : (Op.equalIn (d + 1 + 1) 50 (.agg #[.int .i64 t, .int .i64 n, .string s]) (.agg #[.int .i64 t', .int .i64 n', .string s'])).run Tryz.prog w = .ok ((t == t') && (n == n') && (s.toList == s'.toList)) w := by
  have u3 := Tryz.underlying3
  have a3 := Tryz.isAgg3
  have z3 := Tryz.sizeOf3
  have u9 := Tryz.underlying9
  have a9 := Tryz.isAgg9
  have z9 := Tryz.sizeOf9
  rw [run_equalIn_agg w (d + 1) 50 _ _ strV hpV]
  simp only [Program.fieldsOf, Tryz.underlying50]
  go_simp
  by_cases h1 : t = t' <;> by_cases h2 : n = n' <;> by_cases h3 : s.toList = s'.toList <;> simp [h1, h2, h3]
def Pr.eq (p q : Pr) : Bool := (p.nm.toList == q.nm.toList) && ((p.t == q.t) && (p.n == q.n) && (p.s.toList == q.s.toList))
theorem eqP_any (p q : Pr) (w : World) : (Op.equalIn 10000 52 p.one q.one).run Tryz.prog w = .ok (p.eq q) w := by
  have u9 := Tryz.underlying9
  have a9 := Tryz.isAgg9
  have z9 := Tryz.sizeOf9
  have a56 := Tryz.isAgg50
  have z56 := Tryz.sizeOf50
  have hV : ∀ w, (Op.equalIn 9999 50 (.agg #[.int .i64 p.t, .int .i64 p.n, .string p.s]) (.agg #[.int .i64 q.t, .int .i64 q.n, .string q.s])).run Tryz.prog w = .ok ((p.t == q.t) && (p.n == q.n) && (p.s.toList == q.s.toList)) w := fun w => eqV_any p.t p.n q.t q.n p.s q.s 9997 w
  rw [show (10000 : Nat) = 9999 + 1 from rfl, run_equalIn_agg w 9999 52 _ _ strP hpPm]
  unfold Pr.eq
  generalize ((p.t == q.t) && (p.n == q.n) && (p.s.toList == q.s.toList)) = b at *
  simp only [Program.fieldsOf, Tryz.underlying52]
  go_simp
  by_cases h1 : p.nm.toList = q.nm.toList <;> cases b <;> simp [h1]
theorem pr_eq_self (p : Pr) : p.eq p = true := by simp [Pr.eq]
theorem neqP_any (p q : Pr) (w : World) : (binOp .neq 52 p.one q.one).run Tryz.prog w = .ok (.bool (!p.eq q)) w := by
  rw [run_neq_struct, eqP_any]; rfl
theorem egPP (op : BinOp) (x y : Operand) (p q : Pr) (w : World) : (eqGuard op 52 x y p.one q.one).run Tryz.prog w = .ok () w := run_eqGuard_agg w op 52 x y _ _ egP45

set_option maxHeartbeats 1000000 in
set_option maxRecDepth 100000 in
theorem srec_same {va vb : Value} {L : List Pr} {w : World} (ha : IsR w va L) (hb : IsR w vb L) (hl : L.length ≤ 1000) :
    Calls Tryz.prog 35 #[va, vb] w fun e w' => e = .returned (.bool true) ∧ Below w.heap.size w w' := by
  obtain ⟨ao, ca, rfl, h1⟩ := ha
  obtain ⟨bo, cb, rfl, h2⟩ := hb
  go_enter Tryz.func35, Tryz.ntmps35
  go_wp2
  go_loopw [5] (fun i wr => ∃ k q : Nat, k ≤ L.length ∧ i = .int .i64 k ∧ wr = w.drewN q) (fun i _ => L.length - (intOf i).toNat)
  case atStart => exact ⟨0, 0, Nat.zero_le _, rfl, rfl⟩
  case round =>
    obtain ⟨k, q, hk, rfl, rfl⟩ := hrel
    by_cases hlt : k < L.length
    · obtain ⟨x, hx⟩ : ∃ x, L[k]? = some x := ⟨L[k], by simp [hlt]⟩
      rcases h1 with rfl | ⟨b1, o1, rfl, hb1, l1⟩
      · exact absurd hlt (by simp)
      rcases h2 with rfl | ⟨b2, o2, rfl, hb2, l2⟩
      · exact absurd hlt (by simp)
      obtain ⟨c0, c1, c2, c3⟩ := l1 k x hx
      obtain ⟨d0, d1, d2, d3⟩ := l2 k x hx
      have hne := neqP_any x x
      rw [pr_eq_self] at hne
      have hgd := fun op a b => egPP op a b x x
      obtain ⟨nm, t, n, s⟩ := x
      simp only at c0 c1 c2 c3 d0 d1 d2 d3 hne hgd
      clear l1 l2 hx
      generalize hW : w.drewN q = W at *
      have e0 : W.cell? ⟨b1, o1 + k * 4, none⟩ = some (.string nm) := by rw [← hW]; exact c0
      have e1 : W.cell? ⟨b1, o1 + k * 4 + 1, none⟩ = some (.int .i64 t) := by rw [← hW]; exact c1
      have e2 : W.cell? ⟨b1, o1 + k * 4 + 2, none⟩ = some (.int .i64 n) := by rw [← hW]; exact c2
      have e3 : W.cell? ⟨b1, o1 + k * 4 + 3, none⟩ = some (.string s) := by rw [← hW]; exact c3
      have f0 : W.cell? ⟨b2, o2 + k * 4, none⟩ = some (.string nm) := by rw [← hW]; exact d0
      have f1 : W.cell? ⟨b2, o2 + k * 4 + 1, none⟩ = some (.int .i64 t) := by rw [← hW]; exact d1
      have f2 : W.cell? ⟨b2, o2 + k * 4 + 2, none⟩ = some (.int .i64 n) := by rw [← hW]; exact d2
      have f3 : W.cell? ⟨b2, o2 + k * 4 + 3, none⟩ = some (.string s) := by rw [← hW]; exact d3
      clear c0 c1 c2 c3 d0 d1 d2 d3
      go_wp2_with fail
      go_quiet (fail)
      go_wp2
      refine ⟨⟨k + 1, q + nq, hlt, ?_, by rw [← hW, World.drewN_drewN]⟩, ?_⟩
      · go_num
      · simp [intOf]
        omega
    · go_wp2
      go_ret
      exact ⟨rfl, b_drewK (Below.refl _ _) _⟩

set_option maxHeartbeats 1000000 in
set_option maxRecDepth 100000 in
theorem snode_same {id : Int} {kd : ByteArray} {va vb : Value} {L : List Pr} {w : World} (ha : IsR w va L) (hb : IsR w vb L) (hl : L.length ≤ 1000) :
    Calls Tryz.prog 22 #[.agg #[.int .i64 id, .string kd, va], .agg #[.int .i64 id, .string kd, vb]] w fun e w' => e = .returned (.bool true) ∧ Below w.heap.size w w' := by
  have ha' := ha
  have hb' := hb
  obtain ⟨ao, ca, rfl, h1⟩ := ha'
  obtain ⟨bo, cb, rfl, h2⟩ := hb'
  clear h1 h2
  have hB : Below w.heap.size w ((w.alloc (.cells #[.int .i64 id, .string kd, .slice ao L.length ca] 48)).alloc (.cells #[.int .i64 id, .string kd, .slice bo L.length cb] 48)) := b_alloc (b_alloc (Below.refl _ _) _) _
  have cR := srec_same (ha.on hB) (hb.on hB) hl
  have HK : Hid (∀ W, Below ((w.alloc (.cells #[.int .i64 id, .string kd, .slice ao L.length ca] 48)).alloc (.cells #[.int .i64 id, .string kd, .slice bo L.length cb] 48)).heap.size ((w.alloc (.cells #[.int .i64 id, .string kd, .slice ao L.length ca] 48)).alloc (.cells #[.int .i64 id, .string kd, .slice bo L.length cb] 48)) W → Below w.heap.size w W ∧ W.cell? ⟨w.heap.size, 0, none⟩ = some (.int .i64 id) ∧ W.cell? ⟨w.heap.size, 1, none⟩ = some (.string kd) ∧ W.cell? ⟨w.heap.size + 1, 0, none⟩ = some (.int .i64 id) ∧ W.cell? ⟨w.heap.size + 1, 1, none⟩ = some (.string kd)) := fun W h => by
    refine ⟨on1 hB h, ?_, ?_, ?_, ?_⟩
    · exact (h.cell (by simp; omega)).trans (by simp)
    · exact (h.cell (by simp; omega)).trans (by simp)
    · exact (h.cell (by simp)).trans (by simp)
    · exact (h.cell (by simp)).trans (by simp)
  clear hB ha hb
  go_enter Tryz.func22, Tryz.ntmps22
  go_wp2_with (first | (go_at_call 35; refine cR.mono ?_; rintro e W1 ⟨rfl, hB1⟩; obtain ⟨k0, k1, k2, k3, k4⟩ := HK.out W1 hB1; have HB1 := Lib.hid k0; clear hB1 k0))
  go_ret
  exact ⟨rfl, HB1.out⟩
theorem strT : Tryz.prog.underlying 54 = some (.struct (Tryz.prog.fieldsOf 54)) := by kernel_rfl
theorem hpT : Tryz.prog.stoodInHeld 54 = false := by kernel_rfl
theorem egT90 : Tryz.prog.eqGuardType Tryz.prog.depth 54 = false := by kernel_rfl
theorem eqT_any (t : Te) (w : World) : (Op.equalIn 10000 54 t.one t.one).run Tryz.prog w = .ok true w := by
  have u3 := Tryz.underlying3
  have a3 := Tryz.isAgg3
  have z3 := Tryz.sizeOf3
  have u9 := Tryz.underlying9
  have a9 := Tryz.isAgg9
  have z9 := Tryz.sizeOf9
  obtain ⟨bd, fr, tt⟩ := t
  rw [show (10000 : Nat) = 9999 + 1 from rfl, run_equalIn_agg w 9999 54 _ _ strT hpT]
  simp only [Program.fieldsOf, Tryz.underlying54]
  go_simp
theorem neqT_any (t : Te) (w : World) : (binOp .neq 54 t.one t.one).run Tryz.prog w = .ok (.bool false) w := by
  rw [run_neq_struct, eqT_any]; rfl
theorem egTT (op : BinOp) (x y : Operand) (p q : Te) (w : World) : (eqGuard op 54 x y p.one q.one).run Tryz.prog w = .ok () w := run_eqGuard_agg w op 54 x y _ _ egT90
set_option maxHeartbeats 4000000 in
set_option maxRecDepth 100000 in
theorem graph_same {vn vt un ut : Value} {N M : List Nd} {T : List Te} {w : World} (hN : IsN w vn N) (hT : IsT w vt T) (hM : IsN w un M) (hT' : IsT w ut T) (hc : cN N = cN M) (hl : N.length ≤ 1000) (hlt : T.length ≤ 1000) (hr : ∀ n ∈ N, n.rc.length ≤ 1000) :
    Calls Tryz.prog 9 #[.agg #[vn, vt], .agg #[un, ut]] w fun e w' => e = .returned (.bool true) ∧ Below w.heap.size w w' := by
  have hll : N.length = M.length := by have := congrArg List.length hc; simpa [cN] using this
  obtain ⟨W0, hW0⟩ : ∃ W0, W0 = (w.alloc (.cells #[vn, vt] 29)).alloc (.cells #[un, ut] 29) := ⟨_, rfl⟩
  have hB0 : Below w.heap.size w W0 := by rw [hW0]; exact b_alloc (b_alloc (Below.refl _ _) _) _
  have n0 : W0.heap[w.heap.size]? = some (.cells #[vn, vt] 29 (0, 0)) := by rw [hW0]; exact (Below.heap_alloc _ _ _ (by simp)).trans (heap_alloc_new w _)
  have n1 : W0.heap[w.heap.size + 1]? = some (.cells #[un, ut] 29 (0, 0)) := by
    have := heap_alloc_new (w.alloc (.cells #[vn, vt] 29)) (.cells #[un, ut] 29)
    rw [World.size_alloc] at this; rw [hW0]; exact this
  have HH := Lib.hid (And.intro hB0 (And.intro hN (And.intro hT (And.intro hM (And.intro hT' hc)))))
  obtain ⟨an, cn, rfl, _⟩ := hN
  obtain ⟨am, cm, rfl, _⟩ := hT
  obtain ⟨bn, en, rfl, _⟩ := hM
  obtain ⟨bm, em, rfl, _⟩ := hT'
  rw [← hll] at n1 hW0 ⊢
  have Hll := Lib.hid hll
  clear hll
  have HX : Hid (∀ W, Below W0.heap.size W0 W → (W.cell? ⟨w.heap.size, 0, none⟩ = some (.slice an N.length cn) ∧ W.cell? ⟨w.heap.size, 1, none⟩ = some (.slice am T.length cm)) ∧ W.cell? ⟨w.heap.size + 1, 0, none⟩ = some (.slice bn N.length en) ∧ W.cell? ⟨w.heap.size + 1, 1, none⟩ = some (.slice bm T.length em)) := fun W hB => by
    have y0 := (hB.block _ (Array.getElem?_eq_some_iff.1 n0).1).trans n0
    have y1 := (hB.block _ (Array.getElem?_eq_some_iff.1 n1).1).trans n1
    exact ⟨⟨cell_at y0 rfl, cell_at y0 rfl⟩, cell_at y1 rfl, cell_at y1 rfl⟩
  obtain ⟨⟨c0, c1⟩, c2, c3⟩ := HX.out W0 (Below.refl _ _)
  clear hc n0 n1 hB0
  go_enter Tryz.func9, Tryz.ntmps9
  go_upto_region 1 with fail
  rw [← hW0]
  clear hW0
  go_wp2
  go_loopw [5] (fun i wr => ∃ k : Nat, k ≤ N.length ∧ i = .int .i64 k ∧ Below W0.heap.size W0 wr) (fun i _ => N.length - (intOf i).toNat)
  case atStart => exact ⟨0, Nat.zero_le _, rfl, Below.refl _ _⟩
  case round =>
    obtain ⟨k, hk, rfl, hB⟩ := hrel
    obtain ⟨⟨e0, e1⟩, e2, e3⟩ := HX.out wr hB
    have HBr := Lib.hid hB
    by_cases hlt : k < N.length
    · obtain ⟨n, hn⟩ : ∃ n, N[k]? = some n := ⟨N[k], by simp [hlt]⟩
      obtain ⟨m, hm⟩ : ∃ m, M[k]? = some m := ⟨M[k]'(by have := Hll.out; omega), by simp⟩
      have hcm : n.c = m.c := by
        have h1 : (cN N)[k]? = some n.c := by unfold cN; rw [List.getElem?_map, hn]; rfl
        have h2 : (cN M)[k]? = some m.c := by unfold cN; rw [List.getElem?_map, hm]; rfl
        rw [HH.out.2.2.2.2.2, h2] at h1
        exact (Option.some.inj h1).symm
      have hBw := on1K HH.out.1 hB (Nat.le_refl _)
      have gt : ∀ {v : Value} {X : List Nd} {ao : Option Addr} {cp : Nat} {x : Nd}, IsN w v X → v = .slice ao N.length cp → X[k]? = some x → ∃ b off, ao = some ⟨b, off, none⟩ ∧ (wr.cell? ⟨b, off + k * 3, none⟩ = some (.int .i64 x.id) ∧ wr.cell? ⟨b, off + k * 3 + 1, none⟩ = some (.string x.kd) ∧ wr.cell? ⟨b, off + k * 3 + 2, none⟩ = some x.rv) ∧ IsR wr x.rv x.rc := fun {v X ao cp x} h hv hx => by
        obtain ⟨a', c', e, hle, h0 | ⟨b, off, e2, hb, hL⟩⟩ := h
        · rw [h0] at hx; simp at hx
        · rw [hv] at e
          injection e with e _ _
          obtain ⟨q0, q1, q2, q3⟩ := hL k x hx
          exact ⟨b, off, e.trans e2, ⟨(hBw.cell hb).trans q0, (hBw.cell hb).trans q1, (hBw.cell hb).trans q2⟩, q3.on hBw⟩
      obtain ⟨b, off, rfl, ⟨d0, d1, d2⟩, hR1⟩ := gt HH.out.2.1 rfl hn
      obtain ⟨b', off', rfl, ⟨g0, g1, g2⟩, hR2⟩ := gt HH.out.2.2.2.1 (by rw [Hll.out]) hm
      have hrl := hr n (List.mem_of_getElem? hn)
      obtain ⟨id, kd, rv, rc⟩ := n
      obtain ⟨id', kd', rv', rc'⟩ := m
      simp only [Nd.c, Nd.mk.injEq, true_and] at hcm
      obtain ⟨rfl, rfl, rfl⟩ := hcm
      simp only at d0 d1 d2 g0 g1 g2 hR1 hR2 hrl
      have cs := snode_same (id := id) (kd := kd) (hR1.on (b_drew (Below.refl _ wr))) (hR2.on (b_drew (Below.refl _ wr))) hrl
      obtain ⟨x1, x2, x3, rfl⟩ := hR1.sl
      obtain ⟨y1, y2, y3, rfl⟩ := hR2.sl
      have HCc : Hid (∀ W1, Below wr.heap.size wr W1 → (W1.cell? ⟨w.heap.size, 0, none⟩ = some (.slice (some ⟨b, off, none⟩) N.length cn) ∧ W1.cell? ⟨w.heap.size + 1, 0, none⟩ = some (.slice (some ⟨b', off', none⟩) N.length en)) ∧ (W1.cell? ⟨b, off + k * 3, none⟩ = some (.int .i64 id) ∧ W1.cell? ⟨b, off + k * 3 + 1, none⟩ = some (.string kd) ∧ W1.cell? ⟨b, off + k * 3 + 2, none⟩ = some (.slice x1 x2 x3)) ∧ W1.cell? ⟨b', off' + k * 3, none⟩ = some (.int .i64 id) ∧ W1.cell? ⟨b', off' + k * 3 + 1, none⟩ = some (.string kd) ∧ W1.cell? ⟨b', off' + k * 3 + 2, none⟩ = some (.slice y1 y2 y3)) := fun W1 h => ⟨⟨(h.cell (cell_lt e0)).trans e0, (h.cell (cell_lt e2)).trans e2⟩, ⟨(h.cell (cell_lt d0)).trans d0, (h.cell (cell_lt d1)).trans d1, (h.cell (cell_lt d2)).trans d2⟩, (h.cell (cell_lt g0)).trans g0, (h.cell (cell_lt g1)).trans g1, (h.cell (cell_lt g2)).trans g2⟩
      have hki : (k : Int) < (N.length : Int) := by omega
      have hk0 : (0 : Int) ≤ (k : Int) := by omega
      clear hB gt hn hm hBw hR1 hR2 c0 c1 c2 c3
      go_upto_region 6 with fail
      first | (go_region_held (fun w' => (w'.cell? ⟨w.heap.size, 0, none⟩ = some (.slice (some ⟨b, off, none⟩) N.length cn) ∧ w'.cell? ⟨w.heap.size + 1, 0, none⟩ = some (.slice (some ⟨b', off', none⟩) N.length en)) ∧ (w'.cell? ⟨b, off + k * 3, none⟩ = some (.int .i64 id) ∧ w'.cell? ⟨b, off + k * 3 + 1, none⟩ = some (.string kd) ∧ w'.cell? ⟨b, off + k * 3 + 2, none⟩ = some (.slice x1 x2 x3)) ∧ w'.cell? ⟨b', off' + k * 3, none⟩ = some (.int .i64 id) ∧ w'.cell? ⟨b', off' + k * 3 + 1, none⟩ = some (.string kd) ∧ w'.cell? ⟨b', off' + k * 3 + 2, none⟩ = some (.slice y1 y2 y3)) (go_keep) (first | (go_at_call 22; refine cs.mono ?_; rintro e W1 ⟨rfl, hB1'⟩; have hB1 := b_undrew hB1'; obtain ⟨⟨v0, v1⟩, ⟨v2, v3, v4⟩, v5, v6, v7⟩ := HCc.out W1 hB1; clear hB1'))) | fail
      all_goals
        go_wp2
        refine ⟨⟨k + 1, hlt, ?_, on1K HBr.out hB1 (Nat.le_refl _)⟩, ?_⟩
        · go_num
        · simp [intOf]
          omega
    · clear hB c0 c1 c2 c3
      go_wp2
      go_loopw [7] (fun i wx => ∃ k q : Nat, k ≤ T.length ∧ i = .int .i64 k ∧ wx = wr.drewN q) (fun i _ => T.length - (intOf i).toNat)
      case atStart => exact ⟨0, 0, Nat.zero_le _, rfl, rfl⟩
      case round =>
        rename World => wx
        obtain ⟨j, q, hj, rfl, rfl⟩ := hrel
        have hBq : Below W0.heap.size W0 (wr.drewN q) := b_drewK HBr.out _
        obtain ⟨⟨k0, k1⟩, k2, k3⟩ := HX.out (wr.drewN q) hBq
        by_cases hjt : j < T.length
        · obtain ⟨x, hx⟩ : ∃ x, T[j]? = some x := ⟨T[j], by simp [hjt]⟩
          have hBw := on1K HH.out.1 hBq (Nat.le_refl _)
          have gt : ∀ {v : Value} {ao : Option Addr} {cp : Nat}, IsT w v T → v = .slice ao T.length cp → ∃ b off, ao = some ⟨b, off, none⟩ ∧ ((wr.drewN q).cell? ⟨b, off + j * 3, none⟩ = some (.string x.bd) ∧ (wr.drewN q).cell? ⟨b, off + j * 3 + 1, none⟩ = some (.int .i64 x.fr) ∧ (wr.drewN q).cell? ⟨b, off + j * 3 + 2, none⟩ = some (.int .i64 x.tt)) := fun {v ao cp} h hv => by
            obtain ⟨a', c', e, hle, h0 | ⟨b, off, e2, hb, hL⟩⟩ := h
            · rw [h0] at hx; simp at hx
            · rw [hv] at e
              injection e with e _ _
              obtain ⟨q0, q1, q2⟩ := hL j x hx
              exact ⟨b, off, e.trans e2, ⟨(hBw.cell hb).trans q0, (hBw.cell hb).trans q1, (hBw.cell hb).trans q2⟩⟩
          obtain ⟨b, off, rfl, ⟨d0, d1, d2⟩⟩ := gt HH.out.2.2.1 rfl
          obtain ⟨b', off', rfl, ⟨g0, g1, g2⟩⟩ := gt HH.out.2.2.2.2.1 rfl
          have hne := neqT_any x
          have hgd := fun op a b => egTT op a b x x
          obtain ⟨bd, fr, tt⟩ := x
          simp only at d0 d1 d2 g0 g1 g2 hne hgd
          clear gt hx hBw hBq e0 e1 e2 e3
          generalize hW : wr.drewN q = W at *
          go_wp2_with fail
          go_quiet (fail)
          go_wp2
          refine ⟨⟨j + 1, q + nq, hjt, ?_, by rw [← hW, World.drewN_drewN]⟩, ?_⟩
          · go_num
          · simp [intOf]
            omega
        · go_wp2
          go_ret
          exact ⟨rfl, on1K HH.out.1 (b_drewK HBr.out _) (Nat.le_refl _)⟩
end Go.Proofs.YtifhigajonafdaaGreat
