/-
  The walk of the law GuardSame.
-/
import Derived.Test.YtjnjbajnmclmjaaGreatM36
import Derived.Test.YtjnjbajnmclmjaaGreatM37
namespace Go.Proofs.YtjnjbajnmclmjaaGreat
open Go.RowKit
set_option linter.unusedVariables false
set_option linter.unusedSimpArgs false

/-- Gone of a node. -/
abbrev oG (id : Int) : Opx := ⟨2, ⟨id, ⟨#[]⟩, .slice none 0 0, []⟩, ⟨⟨#[]⟩, 0, 0, ⟨#[]⟩⟩, ⟨⟨#[]⟩, 0, 0⟩⟩
theorem oG_sz (id : Int) : OpSz (oG id) := by
  have h0 : (⟨#[]⟩ : ByteArray).size ≤ maxLen := by decide
  exact ⟨⟨h0, fun p hp => (by cases hp), by show 0 ≤ maxLen; decide⟩, ⟨h0, h0⟩, h0⟩
theorem isR_nil (w : World) : IsR w (.slice none 0 0) [] := ⟨none, 0, rfl, .inl rfl⟩
/-- The graph of two nodes and one tie. -/
def two : List Nd := [⟨1, ⟨#[97]⟩, .nilIface, [prK 1]⟩, ⟨2, ⟨#[97]⟩, .nilIface, [prK 2]⟩]
def oneT : List Te := [⟨⟨#[112]⟩, 1, 2⟩]
theorem two_of {N : List Nd} (hl : N.length = 2) (h : ∀ (j : Nat) (x : Nd), N[j]? = some x → x.id = (j : Int) + 1 ∧ x.kd = ⟨#[97]⟩ ∧ x.rc = [prK ((j : Int) + 1)]) : cN N = two := by
  match N, hl with
  | [a, b], _ =>
    obtain ⟨a1, a2, a3⟩ := h 0 a rfl
    obtain ⟨b1, b2, b3⟩ := h 1 b rfl
    obtain ⟨ai, ak, av, ar⟩ := a
    obtain ⟨bi, bk, bv, br⟩ := b
    simp only at a1 a2 a3 b1 b2 b3
    subst a1 a2 a3 b1 b2 b3
    rfl
theorem rowT_one : rowT 1 = oneT := by simp [rowT, List.range_succ, tK, oneT]
theorem two_fnd : fndN 2 two = true := by decide +kernel
theorem two_lo : loN 2 two = 1 := by decide +kernel
theorem two_tie : oneT.filter (keepT 2) = [] := by decide +kernel
/-- The law's own fact, in plain words. -/
theorem fact_ok {N : List Nd} {vo vf : Value} (hl : N.length = 2) (h : ∀ (j : Nat) (x : Nd), N[j]? = some x → x.id = (j : Int) + 1 ∧ x.kd = ⟨#[97]⟩ ∧ x.rc = [prK ((j : Int) + 1)]) :
    CkOk [kdA vo vf] [bdP (-1)] N (rowT 1) [oG 2] ∧ mayB [kdA vo vf] [bdP (-1)] N (rowT 1) [oG 2] = true := by
  have hP : RowP N (fun j => (j : Int) + 1) := h
  have hg : gErr N (rowT 1) = 0 := rowP_gErr hP (fun j hj => by rw [hl] at hj; constructor <;> omega) (by omega) (by omega)
  have hs : (sErr [kdA vo vf] [bdP (-1)]).2 = 0 := sErr_a vo vf (.inl rfl)
  have hi : inE [kdA vo vf] [bdP (-1)] N (rowT 1) = 0 := by unfold inE; rw [if_pos hs, hg]
  have hc := two_of hl h
  have he : opS.e (oG 2) (cN N) (rowT 1) = 0 := by
    show (if fndN 2 (cN N) = true then (0 : Int) else 5) = 0
    rw [hc, two_fnd]; rfl
  refine ⟨⟨hi, ?_, by simp, hg, ?_⟩, ?_⟩
  · unfold confB
    rw [hi, row_all hP (by rw [hl]; decide)]
    rfl
  · show (if opS.e (oG 2) (cN N) (rowT 1) = 0 then _ else _) = (0 : Int)
    rw [if_pos he]; rfl
  · have hr : opS.res [oG 2] (cN N) (rowT 1) = ([⟨1, ⟨#[97]⟩, .nilIface, [prK 1]⟩], rowT 0) := by
      show (if opS.e (oG 2) (cN N) (rowT 1) = 0 then _ else _) = _
      rw [if_pos he, hc, rowT_one]
      show (two.eraseIdx (loN 2 two), oneT.filter (keepT 2)) = _
      rw [two_lo, two_tie]; rfl
    unfold mayB resN resT
    rw [hr]
    have hP1 : RowP [⟨1, ⟨#[97]⟩, .nilIface, [prK 1]⟩] (fun j => (j : Int) + 1) := by
      intro j x hx
      match j with
      | 0 => obtain rfl : (⟨1, ⟨#[97]⟩, .nilIface, [prK 1]⟩ : Nd) = x := by simpa using hx
             exact ⟨rfl, rfl, rfl⟩
      | j + 1 => simp at hx
    rw [row_all hP1 (m := 0) (by simp)]
    rfl
abbrev oGW (W : World) : World := W.alloc (.cells #[.int .i64 2, .int .i64 2, .string ⟨#[]⟩, .slice none 0 0, .string ⟨#[]⟩, .int .i64 0, .int .i64 0, .string ⟨#[]⟩, .string ⟨#[]⟩, .int .i64 0, .int .i64 0] 47)
theorem oGW_isO (W : World) : IsO (oGW W) (.slice (some ⟨W.heap.size, 0, none⟩) 1 1) [oG 2] := by
  have hn := heap_alloc_new W (.cells #[.int .i64 2, .int .i64 2, .string ⟨#[]⟩, .slice none 0 0, .string ⟨#[]⟩, .int .i64 0, .int .i64 0, .string ⟨#[]⟩, .string ⟨#[]⟩, .int .i64 0, .int .i64 0] 47)
  refine ⟨_, 1, rfl, Nat.le_refl _, .inr ⟨W.heap.size, 0, rfl, by simp, fun k x hx => ?_⟩⟩
  obtain ⟨rfl, rfl⟩ : k = 0 ∧ oG 2 = x := by
    have := (List.getElem?_eq_some_iff.1 hx).1
    have hk : k = 0 := by simp at this; exact this
    subst hk
    exact ⟨rfl, by simpa using hx⟩
  refine ⟨fun i u hu => ?_, isR_nil _⟩
  have e : 0 + 0 * 11 + i = i := by omega
  rw [e]
  exact cell_at hn (by simpa [Opx.cells] using hu)
theorem fact_may {W : World} {vs : Value} {an am : Option Addr} {cn cm : Nat} {vo vf : Value} {B0 : Nat} (hs : IsSc W vs [kdA vo vf] [bdP (-1)]) (hN : RowN B0 W (.slice an 2 cn) 2) (hT : IsT W (.slice am 1 cm) (rowT 1)) :
    Calls Tryz.prog 13 #[vs, .agg #[.slice an 2 cn, .slice am 1 cm], .slice (some ⟨W.heap.size, 0, none⟩) 1 1] (oGW W) fun e w' => e = .returned (.tuple #[.bool true, .nilIface]) ∧ Below (oGW W).heap.size (oGW W) w' := by
  obtain ⟨N, base, _, h1, h2, h3, _⟩ := hN
  obtain ⟨k1, k2⟩ := fact_ok (vo := vo) (vf := vf) h1 h3
  have hB : Below W.heap.size W (oGW W) := b_alloc (Below.refl _ _) _
  have hP : RowP N (fun j => (j : Int) + 1) := h3
  have c := may_yes (hs.on hB) (vg := .agg #[.slice an 2 cn, .slice am 1 cm]) ⟨_, _, rfl, h2.on hB, hT.on hB, rowP_szN hP, row_szT 1, by rw [h1]; decide, by rw [rowT_len]; decide⟩ (oGW_isO W) (fun o ho => by simp at ho; subst ho; exact oG_sz 2) k1
  rw [k2] at c
  exact c

set_option maxHeartbeats 8000000 in
set_option maxRecDepth 100000 in
theorem same_any {vs vg vl : Value} {L : List Kd} {B : List Bd} {N : List Nd} {T : List Te} {O : List Opx} {w : World} (hs : IsSc w vs L B) (hg : IsG w vg N T) (hl : IsO w vl O) (zl : ∀ o ∈ O, OpSz o) (lO : O.length ≤ maxLen) :
    Calls Tryz.prog 4 #[vs, vg, vl] w fun e w' => e = .returned (.bool true) ∧ Below w.heap.size w w' := by
  have HP : Hid (IsSc w vs L B ∧ IsG w vg N T ∧ IsO w vl O) := ⟨hs, hg, hl⟩
  obtain ⟨a1, n1, c1, b1, m1, d1, rfl⟩ := isSc_sl hs
  obtain ⟨a2, n2, c2, b2, m2, d2, rfl⟩ := isG_sl hg
  obtain ⟨a3, n3, c3, rfl⟩ := isO_sl hl
  obtain ⟨W0, hW0⟩ : ∃ W0, W0 = box2 w #[.slice a1 n1 c1, .slice b1 m1 d1] 25 #[.slice a2 n2 c2, .slice b2 m2 d2] 29 := ⟨_, rfl⟩
  have HB0 : Hid (Below w.heap.size w W0) := by rw [hW0]; exact box2_below _ _ _ _ _
  have x0 : W0.cell? ⟨w.heap.size, 0, none⟩ = some (.slice a1 n1 c1) := by rw [hW0]; exact box2_a _ _ _ _ _ rfl
  have x1 : W0.cell? ⟨w.heap.size, 1, none⟩ = some (.slice b1 m1 d1) := by rw [hW0]; exact box2_a _ _ _ _ _ rfl
  have x2 : W0.cell? ⟨w.heap.size + 1, 0, none⟩ = some (.slice a2 n2 c2) := by rw [hW0]; exact box2_b _ _ _ _ _ rfl
  have x3 : W0.cell? ⟨w.heap.size + 1, 1, none⟩ = some (.slice b2 m2 d2) := by rw [hW0]; exact box2_b _ _ _ _ _ rfl
  have hs0 : W0.heap.size = w.heap.size + 2 := by rw [hW0]; exact box2_size _ _ _ _ _
  have HC : Hid (∀ W, Below W0.heap.size W0 W → Below w.heap.size w W ∧ (W.cell? ⟨w.heap.size, 0, none⟩ = some (.slice a1 n1 c1) ∧ W.cell? ⟨w.heap.size, 1, none⟩ = some (.slice b1 m1 d1)) ∧ W.cell? ⟨w.heap.size + 1, 0, none⟩ = some (.slice a2 n2 c2) ∧ W.cell? ⟨w.heap.size + 1, 1, none⟩ = some (.slice b2 m2 d2)) := fun W hB =>
    ⟨on1K HB0.out hB (Nat.le_refl _), ⟨(hB.cell (p := ⟨w.heap.size, 0, none⟩) (by show w.heap.size < _; omega)).trans x0, (hB.cell (p := ⟨w.heap.size, 1, none⟩) (by show w.heap.size < _; omega)).trans x1⟩, (hB.cell (p := ⟨w.heap.size + 1, 0, none⟩) (by show w.heap.size + 1 < _; omega)).trans x2, (hB.cell (p := ⟨w.heap.size + 1, 1, none⟩) (by show w.heap.size + 1 < _; omega)).trans x3⟩
  have cS := simple_sc (-1) W0
  have HM : Hid (∀ W, Calls Tryz.prog 15 #[.int .i64 2, .int .i64 1] W (ManyP W 2 1)) := fun W => many_any 2 1 (by omega) (by omega) W
  have HK : Hid (∀ (W1 W2 : World) (vs : Value) (an am : Option Addr) (cn cm : Nat) (vo vf : Value), IsSc W1 vs [kdA vo vf] [bdP (-1)] → Below W1.heap.size W1 W2 → RowN W1.heap.size W2 (.slice an 2 cn) 2 → IsT W2 (.slice am 1 cm) (rowT 1) → Calls Tryz.prog 13 #[vs, .agg #[.slice an 2 cn, .slice am 1 cm], .slice (some ⟨W2.heap.size, 0, none⟩) 1 1] (oGW W2) fun e w' => e = .returned (.tuple #[.bool true, .nilIface]) ∧ Below (oGW W2).heap.size (oGW W2) w') := fun W1 W2 vs an am cn cm vo vf h1 h2 h3 h4 => fact_may (h1.on h2) h3 h4
  clear hs hg hl
  by_cases h : CkOk L B N T O
  · have HY : Hid (∀ W, Below w.heap.size w W → Calls Tryz.prog 13 #[.agg #[.slice a1 n1 c1, .slice b1 m1 d1], .agg #[.slice a2 n2 c2, .slice b2 m2 d2], .slice a3 n3 c3] W fun e w' => e = .returned (.tuple #[.bool (mayB L B N T O), .nilIface]) ∧ Below W.heap.size W w') := fun W hB => may_yes (HP.out.1.on hB) (HP.out.2.1.on hB) (HP.out.2.2.on hB) zl h
    have HA : Hid (∀ W, Below w.heap.size w W → Calls Tryz.prog 6 #[.agg #[.slice a2 n2 c2, .slice b2 m2 d2], .slice a3 n3 c3] W fun e w' => ∃ a l c b m d M, e = .returned (.tuple #[.agg #[.slice a l c, .slice b m d], .int .i64 0, .nilIface]) ∧ cN M = resN N T O ∧ OwnNs w' W.heap.size (.slice a l c) M ∧ OwnTs w' W.heap.size (.slice b m d) (resT N T O) ∧ gErr M (resT N T O) = 0 ∧ Below W.heap.size W w') := fun W hB => by
      obtain ⟨vn, vt, e, hN, hT, zN, zT, lN, lT⟩ := HP.out.2.1
      injection e with e
      obtain ⟨rfl, rfl⟩ : .slice a2 n2 c2 = vn ∧ .slice b2 m2 d2 = vt := by simpa using e
      exact all_yes (hN.on hB) (hT.on hB) zN zT (HP.out.2.2.on hB) zl h.2.2
    have HF : Hid (∀ W vn' vt' M, Below w.heap.size w W → IsN W vn' M → IsT W vt' (resT N T O) → cN M = resN N T O → gErr M (resT N T O) = 0 → Calls Tryz.prog 16 #[.agg #[.slice a1 n1 c1, .slice b1 m1 d1], .agg #[vn', vt']] W fun e w' => e = .returned (.tuple #[.bool (mayB L B N T O), .nilIface]) ∧ Below W.heap.size W w') := fun W vn' vt' M hB h1 h2 h3 h4 => by
      obtain ⟨z1, z2⟩ := gErr_sz h4
      obtain ⟨l1, l2, _⟩ := gErr_lens h4
      have c := conforms_any (HP.out.1.on hB) (N := M) (T := resT N T O) (vg := .agg #[vn', vt']) ⟨_, _, rfl, h1, h2, z1, z2, by unfold maxLen; omega, by unfold maxLen; omega⟩
      have he : inE L B M (resT N T O) = 0 := by
        have h0 := h.1
        unfold inE at h0 ⊢
        by_cases hq : (sErr L B).2 = 0
        · rw [if_pos hq]; exact h4
        · rw [if_neg hq] at h0; exact absurd h0 hq
      have e1 : allF L B M (resT N T O) = allF L B (resN N T O) (resT N T O) := allF_eq (h3.trans (resN_c h3).symm)
      have e2 : confB L B M (resT N T O) = mayB L B N T O := by
        unfold confB mayB
        rw [he, e1]; simp
      rw [he, e2, errV_0] at c
      exact c
    clear h zl lO
    generalize mayB L B N T O = mb at HY HF
    generalize resN N T O = RN at HA HF
    generalize resT N T O = RT at HA HF
    go_enter Tryz.func4, Tryz.ntmps4
    go_upto_region 1 with fail
    unfold box2 at hW0
    rw [← hW0]
    clear hW0
    go_wp2_with (first | (go_at_call 14; refine cS.mono ?_; rintro e W1 ⟨vs, vo, vf, rfl, hs1, hB1⟩; refine Hid.out ?_))
    refine Lib.hid ?_
    have cM := HM.out W1
    unfold ManyP at cM
    obtain ⟨q1, q2, q3, q4, q5, q6, rfl⟩ := isSc_sl hs1
    have H1 := Lib.hid (And.intro hs1 hB1)
    clear hs1 hB1 cS x0 x1 x2 x3
    go_wp2_with (first | (go_at_call 15; refine cM.mono ?_; rintro e W2 ⟨an, cn, am, cm, rfl, hN2, hT2, hB2⟩; refine Hid.out ?_))
    refine Lib.hid ?_
    have cK := HK.out W1 W2 _ an am cn cm vo vf H1.out.1 hB2 hN2 hT2
    have H2 : Hid (Below W0.heap.size W0 (oGW W2)) := on1K H1.out.2 (b_alloc hB2 _) (Nat.le_refl _)
    unfold oGW at cK
    clear cM hN2 hT2 hB2
    go_wp2_with (first | (go_at_call 13; refine cK.mono ?_; rintro e W3 ⟨rfl, hB3⟩; refine Hid.out ?_))
    refine Lib.hid ?_
    have hB03 := on1K H2.out hB3 (Nat.le_refl _)
    obtain ⟨hbw, ⟨y0, y1⟩, y2, y3⟩ := HC.out W3 hB03
    have cY := HY.out W3 hbw
    have H3 := Lib.hid hB03
    clear cK hB03 hB3 hbw
    go_wp2_with (first | (go_at_call 13; refine cY.mono ?_; rintro e W4 ⟨rfl, hB4⟩; refine Hid.out ?_))
    refine Lib.hid ?_
    have hB04 := on1K H3.out hB4 (Nat.le_refl _)
    obtain ⟨hbw, ⟨z0, z1⟩, z2, z3⟩ := HC.out W4 hB04
    have cA := HA.out W4 hbw
    have H4 := Lib.hid hB04
    clear cY hB04 hB4 hbw y0 y1 y2 y3
    go_wp2_with (first | (go_at_call 6; refine cA.mono ?_; rintro e W5 ⟨a, l, c, b, m, d, M, rfl, hM, o1, o2, g4, hB5⟩; refine Hid.out ?_))
    refine Lib.hid ?_
    obtain ⟨W6, hW6⟩ : ∃ W6, W6 = W5.alloc (.cells #[.slice a l c, .slice b m d] 29) := ⟨_, rfl⟩
    have hB6 : Below W5.heap.size W5 W6 := by rw [hW6]; exact b_alloc (Below.refl _ _) _
    have n6 : W6.heap[W5.heap.size]? = some (.cells #[.slice a l c, .slice b m d] 29 (0, 0)) := by rw [hW6]; exact heap_alloc_new W5 _
    have hB06 := on1K H4.out (on1K hB5 hB6 (Nat.le_refl _)) (Nat.le_refl _)
    obtain ⟨hbw6, ⟨t0, t1⟩, _, _⟩ := HC.out W6 hB06
    have m0 : W6.cell? ⟨W5.heap.size, 0, none⟩ = some (.slice a l c) := cell_at n6 rfl
    have m1' : W6.cell? ⟨W5.heap.size, 1, none⟩ = some (.slice b m d) := cell_at n6 rfl
    have cF := HF.out W6 _ _ M hbw6 ((o1.kt (.of_below hB6) (.of_below hB6)).isN) ((o2.kt (.of_below hB6)).isT) hM g4
    have H6 := Lib.hid hbw6
    clear cA z0 z1 z2 z3 o1 o2 hM g4 hB5 hB6 n6 hB06 hbw6
    go_upto_region 8 with fail
    rw [← hW6]
    clear hW6
    go_wp2_with (first | (go_at_call 16; refine cF.mono ?_; rintro e W7 ⟨rfl, hB7⟩))
    go_ret
    exact ⟨ret_v (by cases mb <;> rfl), on1K H6.out hB7 (Nat.le_refl _)⟩
  · have HY : Hid (∀ W, Below w.heap.size w W → Calls Tryz.prog 13 #[.agg #[.slice a1 n1 c1, .slice b1 m1 d1], .agg #[.slice a2 n2 c2, .slice b2 m2 d2], .slice a3 n3 c3] W fun e w' => ∃ z, z ≠ 0 ∧ e = .returned (.tuple #[.bool false, .iface 74 (.int .i64 z)]) ∧ Below W.heap.size W w') := fun W hB => may_no (HP.out.1.on hB) (HP.out.2.1.on hB) (HP.out.2.2.on hB) zl lO h
    clear h zl lO
    go_enter Tryz.func4, Tryz.ntmps4
    go_upto_region 1 with fail
    unfold box2 at hW0
    rw [← hW0]
    clear hW0
    go_wp2_with (first | (go_at_call 14; refine cS.mono ?_; rintro e W1 ⟨vs, vo, vf, rfl, hs1, hB1⟩; refine Hid.out ?_))
    refine Lib.hid ?_
    have cM := HM.out W1
    unfold ManyP at cM
    obtain ⟨q1, q2, q3, q4, q5, q6, rfl⟩ := isSc_sl hs1
    have H1 := Lib.hid (And.intro hs1 hB1)
    clear hs1 hB1 cS x0 x1 x2 x3
    go_wp2_with (first | (go_at_call 15; refine cM.mono ?_; rintro e W2 ⟨an, cn, am, cm, rfl, hN2, hT2, hB2⟩; refine Hid.out ?_))
    refine Lib.hid ?_
    have cK := HK.out W1 W2 _ an am cn cm vo vf H1.out.1 hB2 hN2 hT2
    have H2 : Hid (Below W0.heap.size W0 (oGW W2)) := on1K H1.out.2 (b_alloc hB2 _) (Nat.le_refl _)
    unfold oGW at cK
    clear cM hN2 hT2 hB2
    go_wp2_with (first | (go_at_call 13; refine cK.mono ?_; rintro e W3 ⟨rfl, hB3⟩; refine Hid.out ?_))
    refine Lib.hid ?_
    have hB03 := on1K H2.out hB3 (Nat.le_refl _)
    obtain ⟨hbw, ⟨y0, y1⟩, y2, y3⟩ := HC.out W3 hB03
    have cY := HY.out W3 hbw
    have H3 := Lib.hid hbw
    clear cK hB03 hB3 hbw
    go_wp2_with (first | (go_at_call 13; refine cY.mono ?_; rintro e W4 ⟨z, hz, rfl, hB4⟩; have HZ := Lib.hid hz; clear hz))
    go_ret
    exact ⟨rfl, on1K H3.out hB4 (Nat.le_refl _)⟩
end Go.Proofs.YtjnjbajnmclmjaaGreat
