/-
  SessionApart: the law's fact.
-/
import Derived.Test.YtikjmingkadjcaaGreatDoorA48
import Derived.Test.YtikjmingkadjcaaGreatDoorA36
namespace Go.Proofs.YtikjmingkadjcaaGreatDoor
open Go.RowKit
set_option linter.unusedVariables false
set_option linter.unusedSimpArgs false

def fK : Kd := ⟨[97], [], [], .slice none 0 0, .slice none 0 0⟩
def fN : Nd := ⟨5, ⟨#[97]⟩, .slice none 0 0, []⟩
def fO : Opx := ⟨1, fN, ⟨⟨#[]⟩, 0, 0, ⟨#[]⟩⟩, ⟨⟨#[]⟩, 0, 0⟩⟩
theorem f_cf : cfE [fK] [] [] [] = 0 := by decide +kernel
theorem f_op : opE fO [] [] = 0 := by decide +kernel
theorem f_conf : confB [fK] [] (opS.res [fO.c] [] []).1 (opS.res [fO.c] [] []).2 = true := by decide +kernel
theorem f_err : opS.err [fO.c] [] [] = 0 := by decide +kernel
theorem f_len : (opS.res [fO.c] [] []).1.length = 1 := by decide +kernel
def fS0 : Bs := nwS [fK] [] [] []
theorem fF1 : (openS fS0).F 1 = some x00 := by simp [fS0, nwS, openS, upd, x00, cN]
theorem fF2 : (doS (openS fS0) 1 x00 fO).F 1 = some (x11 fO) := by simp [doS, upd, x11]
theorem f_cm : cmE (doS (openS fS0) 1 x00 fO) (x11 fO) = 0 := by
  unfold cmE
  have hl : lateB (x11 fO) = false := rfl
  rw [hl, if_neg (by decide)]
  show wE (doS (openS fS0) 1 x00 fO) [fO.c] = 0
  unfold wE
  show (if opS.err [fO.c] [] [] = 0 then (if confB [fK] [] (opS.res [fO.c] [] []).1 (opS.res [fO.c] [] []).2 = true then 0 else 9) else _) = 0
  rw [if_pos f_err, if_pos f_conf]
theorem f_sz : OpSz fO := by refine ⟨⟨?_, ?_, ?_⟩, ⟨?_, ?_⟩, ?_⟩ <;> first | decide | (intro p hp; cases hp)
theorem f_R (W : World) : IsR W fO.nd.rv fO.nd.rc := ⟨none, 0, rfl, .inl rfl⟩
theorem fNew {W : World} {vs : Value} (h : IsSc W vs [fK] []) : BsOk fS0 ∧ Calls Tryz.prog 5 #[vs, .agg #[.slice none 0 0, .slice none 0 0]] W fun e w' => ∃ p, e = .returned (.tuple #[.pointer (some ⟨p, 0, none⟩), .nilIface]) ∧ Be w' W.heap.size p fS0 ∧ Below W.heap.size W w' :=
  ⟨nwS_ok f_cf (let ⟨_, _, _, _, _, h, _⟩ := h; h) (let ⟨_, _, _, _, _, _, _, h⟩ := h; h), snew_yes h (isG0 W) f_cf⟩
theorem fOpen {W : World} {base p : Nat} (hok : BsOk fS0) (hb : Be W base p fS0) (hle : base ≤ W.heap.size) : Calls Tryz.prog 6 #[.pointer (some ⟨p, 0, none⟩)] W fun e w' => e = .returned (.tuple #[.int .i64 1, .nilIface]) ∧ Be w' base p (openS fS0) ∧ Fr base W w' :=
  (sopen_any hb hok (by show (0 : Nat) < 4; omega) (by show (0 : Nat) < 1000; omega) hle).mono fun e w' h => ⟨h.1, h.2⟩
theorem fDo {W : World} {base p : Nat} (hok : BsOk fS0) (hb : Be W base p (openS fS0)) (hle : base ≤ W.heap.size) :
    Calls Tryz.prog 7 #[.pointer (some ⟨p, 0, none⟩), .int .i64 1, .agg #[.int .i64 1, .int .i64 5, .string ⟨#[97]⟩, .slice none 0 0, .string ⟨#[]⟩, .int .i64 0, .int .i64 0, .string ⟨#[]⟩, .string ⟨#[]⟩, .int .i64 0, .int .i64 0]] W fun e w' => e = .returned .nilIface ∧ Be w' base p (doS (openS fS0) 1 x00 fO) ∧ Fr base W w' :=
  sdo_yes hb (openS_ok hok (by show (0 : Nat) < 1000; omega)) fF1 (by decide) (f_R W) f_sz (by decide) f_op hle
def FcP (base p : Nat) (w : World) : Prop := ∃ s, Be w base p s ∧ BsOk s ∧ s.N.length = 1
theorem fCommit {W : World} {base p : Nat} (hok : BsOk fS0) (hb : Be W base p (doS (openS fS0) 1 x00 fO)) (hle : base ≤ W.heap.size) :
    Calls Tryz.prog 8 #[.pointer (some ⟨p, 0, none⟩), .int .i64 1] W fun e w' => e = .returned .nilIface ∧ FcP base p w' ∧ Fr base W w' := by
  have hok1 := doS_ok (o := fO) (openS_ok hok (by show (0 : Nat) < 1000; omega)) fF1 (by decide) f_sz f_op
  refine (scommit_any hb hok1 fF2 (by show (0 : Nat) < 1000; omega) hle).mono fun e w' hP => ?_
  obtain ⟨rfl, hf, _, h0⟩ := hP
  obtain ⟨X, h64, hX, hbe⟩ := h0 f_cm
  refine ⟨by rw [f_cm]; rfl, ⟨_, hbe, cmS_ok hok1 fF2 (by show (0 : Nat) < 1000; omega) ?_ h64, ?_⟩, hf⟩
  · have h := f_cm
    unfold cmE at h
    have hl : lateB (x11 fO) = false := rfl
    rwa [hl, if_neg (by decide)] at h
  · exact f_len
theorem fGraph {W : World} {base p : Nat} (h : FcP base p W) (hle : base ≤ W.heap.size) : Calls Tryz.prog 9 #[.pointer (some ⟨p, 0, none⟩)] W fun e w' => ∃ a c a' n' c', e = .returned (.agg #[.slice a 1 c, .slice a' n' c']) ∧ Below W.heap.size W w' := by
  obtain ⟨s, hbe, hok, hl⟩ := h
  refine (sgraph_any hbe hok hle).mono fun e w' hP => ?_
  obtain ⟨a, n, c, a', n', c', M, rfl, ⟨r1, r2, _⟩, hB⟩ := hP
  obtain ⟨b, d, hv⟩ := own_slice r2.1
  have hM : M.length = 1 := by rw [← hl, ← r1]; simp [cN]
  obtain ⟨rfl, rfl, rfl⟩ : a = b ∧ n = M.length ∧ c = d := by simpa using hv
  exact ⟨_, _, _, _, _, by rw [hM], hB⟩
theorem touched_weak {vg vl : Value} {N : List Nd} {T : List Te} {O : List Opx} {w : World} (hg : IsG w vg N T) (hL : IsO w vl O) (zL : ∀ o ∈ O, OpSz o) (lL : O.length ≤ maxLen) :
    Calls Tryz.prog 10 #[vg, vl] w fun e w' => ∃ a n c z, e = .returned (.tuple #[.slice a n c, errV z]) ∧ Below w.heap.size w w' := by
  obtain ⟨vn, vt, rfl, hN, hT, zN, zT, lN, lT⟩ := hg
  by_cases h : AllOk N T O
  · refine (touched_yes hN hT zN zT hL zL h).mono ?_
    rintro e w' ⟨v, L', rfl, h1, _, _, _, h5⟩
    obtain ⟨a, c, rfl⟩ := h1.sl
    exact ⟨a, _, c, 0, rfl, h5⟩
  · refine (touched_no hN hT zN zT lN lT hL zL lL h).mono ?_
    rintro e w' ⟨z, hz, rfl, hB⟩
    exact ⟨none, 0, 0, z, by rw [errV_ne hz], hB⟩
theorem touched_bad {vg vl : Value} {N : List Nd} {T : List Te} {O : List Opx} {w : World} (hg : IsG w vg N T) (hL : IsO w vl O) (zL : ∀ o ∈ O, OpSz o) (lL : O.length ≤ maxLen) (h0 : ¬ AllOk N T O) :
    Calls Tryz.prog 10 #[vg, vl] w fun e w' => ∃ z, e = .returned (.tuple #[.slice none 0 0, .iface 79 (.int .i64 z)]) ∧ Below w.heap.size w w' := by
  obtain ⟨vn, vt, rfl, hN, hT, zN, zT, lN, lT⟩ := hg
  refine (touched_no hN hT zN zT lN lT hL zL lL h0).mono ?_
  rintro e w' ⟨z, hz, rfl, hB⟩
  exact ⟨z, rfl, hB⟩
theorem touched_good {vg vl : Value} {N : List Nd} {T : List Te} {O : List Opx} {w : World} (hg : IsG w vg N T) (hL : IsO w vl O) (zL : ∀ o ∈ O, OpSz o) (h0 : AllOk N T O) :
    Calls Tryz.prog 10 #[vg, vl] w fun e w' => ∃ a c X, e = .returned (.tuple #[.slice a (List.length X) c, .nilIface]) ∧ (IsI w' (.slice a X.length c) X ∧ (∀ x, x ∈ X ↔ x ∈ touA T O) ∧ X.length ≤ 5000) ∧ Below w.heap.size w w' := by
  obtain ⟨vn, vt, rfl, hN, hT, zN, zT, lN, lT⟩ := hg
  refine (touched_yes hN hT zN zT hL zL h0).mono ?_
  rintro e w' ⟨v, L', rfl, h1, h2, h3, _, h5⟩
  obtain ⟨a, c, rfl⟩ := h1.sl
  exact ⟨a, c, L', rfl, ⟨h1, h2, h3⟩, h5⟩
theorem error_no (x : Int) (hx : x ≤ 9) (w : World) (hg : Hnd w) : Calls Tryz.prog 13 #[errV x, .int .i64 10] w fun e w' => e = .returned (.bool false) ∧ Below w.heap.size w w' := by
  have hx' : x ≠ 10 := by omega
  go_enter Tryz.func13, Tryz.ntmps13
  go_wp2_with (go_at_call 31; refine (told_any x _ hg).mono ?_; rintro e w' ⟨rfl, hb⟩)
  go_ret
  exact ⟨ret_bool (by simp [hx']), hb⟩
def WyP (W : World) (b : Nat) (v u : Value) (N : List Nd) (T : List Te) (l k : List Opx) : Prop :=
  opS.err k (opS.res l (cN N) T).1 (opS.res l (cN N) T).2 = 0 ∧ ∃ M, cN M = (opS.res k (opS.res l (cN N) T).1 (opS.res l (cN N) T).2).1 ∧ OwnNs W b v M ∧ OwnTs W b u (opS.res k (opS.res l (cN N) T).1 (opS.res l (cN N) T).2).2
theorem WyP.on {W W' : World} {b : Nat} {v u : Value} {N : List Nd} {T : List Te} {l k : List Opx} (h : WyP W b v u N T l k) (hB : Below W.heap.size W W') : WyP W' b v u N T l k :=
  let ⟨a, M, c, o, t⟩ := h
  ⟨a, M, c, o.kt (.of_below hB) (.of_below hB), t.kt (.of_below hB)⟩
theorem apart_end {W : World} {b1 b2 : Nat} {v1 u1 v2 u2 : Value} {N : List Nd} {T : List Te} {l k : List Opx} (hA : AllOk N T l) (hB : AllOk N T k) (hd : ∀ y ∈ touA T l, y ∉ touA T k) (h1 : WyP W b1 v1 u1 N T l k) (h2 : WyP W b2 v2 u2 N T k l) :
    Calls Tryz.prog 14 #[.agg #[v1, u1], .agg #[v2, u2]] W fun e w' => e = .returned (.bool true) ∧ Below W.heap.size W w' := by
  obtain ⟨elk, M1, c1, o1, t1⟩ := h1
  obtain ⟨ekl, M2, c2, o2, t2⟩ := h2
  have hg : gErr (cN N) T = 0 := by rw [gErr_c]; exact hA.2.1
  have e := apart_same hg hd hA.2.2 hB.2.2 elk ekl
  rw [← e] at c2 t2
  have g1 := res_g l _ _ hg hA.2.2
  have g2 := res_g k _ _ g1 elk
  obtain ⟨⟨n60, _, hn⟩, ⟨t120, _⟩⟩ := (gErr_iff _ _).1 g2
  refine graph_same o1.isN t1.isT o2.isN t2.isT (c1.trans c2.symm) ?_ (by omega) ?_
  · have := congrArg List.length c1
    rw [cN_len] at this
    omega
  · intro n hn'
    have hm : n.c ∈ cN M1 := List.mem_map.2 ⟨n, hn', rfl⟩
    rw [c1] at hm
    have z := ((ndE_iff _).1 (hn _ hm)).2.2
    have z8 := rErr_len z
    have : n.c.rc.length = n.rc.length := rfl
    omega
end Go.Proofs.YtikjmingkadjcaaGreatDoor

/-
  The walk of SessionApart.
-/
namespace Go.Proofs.YtikjmingkadjcaaGreatDoor
open Go.RowKit
set_option linter.unusedVariables false
set_option linter.unusedSimpArgs false

abbrev apW (w : World) (a b c d : Value) : World := ((box2 w #[a, b] 25 #[c, d] 29).alloc (.cells #[.string ⟨#[97]⟩, .slice none 0 0, .slice none 0 0] 34)).alloc (.cells #[.slice (some ⟨w.heap.size + 1 + 1, 0, none⟩) 1 1, .slice none 0 0] 25)
theorem apW_all (w : World) (a b c d : Value) : Below w.heap.size w (apW w a b c d) ∧ (apW w a b c d).heap.size = w.heap.size + 4 ∧
    (apW w a b c d).cell? ⟨w.heap.size, 0, none⟩ = some a ∧ (apW w a b c d).cell? ⟨w.heap.size, 1, none⟩ = some b ∧ (apW w a b c d).cell? ⟨w.heap.size + 1, 0, none⟩ = some c ∧ (apW w a b c d).cell? ⟨w.heap.size + 1, 1, none⟩ = some d ∧
    (apW w a b c d).cell? ⟨w.heap.size + 1 + 1 + 1, 0, none⟩ = some (.slice (some ⟨w.heap.size + 1 + 1, 0, none⟩) 1 1) ∧ (apW w a b c d).cell? ⟨w.heap.size + 1 + 1 + 1, 1, none⟩ = some (.slice none 0 0) ∧
    IsSc (apW w a b c d) (.agg #[.slice (some ⟨w.heap.size + 1 + 1, 0, none⟩) 1 1, .slice none 0 0]) [fK] [] := by
  have hz : (box2 w #[a, b] 25 #[c, d] 29).heap.size = w.heap.size + 2 := box2_size _ _ _ _ _
  obtain ⟨A, hA⟩ : ∃ A, A = (box2 w #[a, b] 25 #[c, d] 29).alloc (.cells #[.string ⟨#[97]⟩, .slice none 0 0, .slice none 0 0] 34) := ⟨_, rfl⟩
  have hzA : A.heap.size = w.heap.size + 3 := by rw [hA, World.size_alloc, hz]
  have hn := heap_alloc_new (box2 w #[a, b] 25 #[c, d] 29) (.cells #[.string ⟨#[97]⟩, .slice none 0 0, .slice none 0 0] 34)
  rw [← hA, hz] at hn
  have hm := heap_alloc_new A (.cells #[.slice (some ⟨w.heap.size + 1 + 1, 0, none⟩) 1 1, .slice none 0 0] 25)
  rw [hzA] at hm
  have hB : Below w.heap.size w A := by rw [hA]; exact b_alloc (box2_below _ _ _ _ _) _
  have old : ∀ {p : Addr} {v : Value}, (box2 w #[a, b] 25 #[c, d] 29).cell? p = some v → (A.alloc (.cells #[.slice (some ⟨w.heap.size + 1 + 1, 0, none⟩) 1 1, .slice none 0 0] 25)).cell? p = some v := fun h => cell_old (by rw [hA]; exact cell_old h _) _
  have k : ∀ {i v}, #[Value.string ⟨#[97]⟩, .slice none 0 0, .slice none 0 0][i]? = some v → (A.alloc (.cells #[.slice (some ⟨w.heap.size + 1 + 1, 0, none⟩) 1 1, .slice none 0 0] 25)).cell? ⟨w.heap.size + 1 + 1, i, none⟩ = some v := fun h => cell_old (cell_at hn h) _
  show Below w.heap.size w ((_ : World).alloc _) ∧ ((_ : World).alloc _).heap.size = _ ∧ _
  rw [show (apW w a b c d) = A.alloc (.cells #[.slice (some ⟨w.heap.size + 1 + 1, 0, none⟩) 1 1, .slice none 0 0] 25) by rw [hA]]
  refine ⟨by rw [← hA]; exact b_alloc hB _, by rw [← hA, World.size_alloc, hzA], old (box2_a _ _ _ _ _ rfl), old (box2_a _ _ _ _ _ rfl), old (box2_b _ _ _ _ _ rfl), old (box2_b _ _ _ _ _ rfl), cell_at hm rfl, cell_at hm rfl, ?_⟩
  refine ⟨_, _, rfl, .inr ⟨_, 0, 1, rfl, Nat.le_refl _, by decide, by rw [World.size_alloc, hzA]; omega, fun i y hy => ?_⟩, fun y hy => ?_, fun y hy => ?_, .inl ⟨rfl, rfl⟩, fun y hy => by cases hy⟩
  · match i, hy with
    | 0, hy =>
      obtain rfl : fK = y := by simpa using hy
      exact ⟨k rfl, k rfl, k rfl⟩
    | i + 1, hy => simp at hy
  · obtain rfl : y = fK := by simpa using hy
    exact ⟨.inl ⟨none, 0, rfl, rfl, by decide, fun _ => rfl⟩, .inl ⟨none, 0, rfl, rfl, by decide, fun _ => rfl⟩⟩
  · obtain rfl : y = fK := by simpa using hy
    exact ⟨by decide, fun f hf => by cases hf⟩

set_option maxHeartbeats 16000000 in
set_option maxRecDepth 100000 in
theorem sapart_any {vs vg vl vk : Value} {L : List Kd} {B : List Bd} {N : List Nd} {T : List Te} {l k : List Opx} {w : World} (hs : IsSc w vs L B) (hg : IsG w vg N T) (hl : IsO w vl l) (hk : IsO w vk k) (zl : RcB l) (zk : RcB k) (ll : l.length ≤ maxLen) (lk : k.length ≤ maxLen) (hh : Hnd w) :
    Calls Tryz.prog 3 #[vs, vg, vl, vk] w fun e w' => e = .returned (.bool true) ∧ Below w.heap.size w w' := by
  obtain ⟨ak, nk, ck, ab, nb, cb, hvs⟩ := isSc_slD hs
  obtain ⟨an, nn, cn, am, nm, cm, hvg⟩ := isG_sl hg
  obtain ⟨al, cl, hvl, _⟩ := id hl
  obtain ⟨ao, co, hvk, _⟩ := id hk
  subst hvs hvg hvl hvk
  have HG : Hid (IsSc w (.agg #[.slice ak nk ck, .slice ab nb cb]) L B ∧ IsG w (.agg #[.slice an nn cn, .slice am nm cm]) N T) := ⟨hs, hg⟩
  have HL : Hid (IsO w (.slice al l.length cl) l ∧ RcB l ∧ l.length ≤ maxLen) := ⟨hl, zl, ll⟩
  have HK : Hid (IsO w (.slice ao k.length co) k ∧ RcB k ∧ k.length ≤ maxLen) := ⟨hk, zk, lk⟩
  have HH : Hid (Hnd w) := hh
  clear hs hg hl hk zl zk ll lk hh
  obtain ⟨W0, hW0⟩ : ∃ W0, W0 = apW w (.slice ak nk ck) (.slice ab nb cb) (.slice an nn cn) (.slice am nm cm) := ⟨_, rfl⟩
  have hA := apW_all w (.slice ak nk ck) (.slice ab nb cb) (.slice an nn cn) (.slice am nm cm)
  rw [← hW0] at hA
  obtain ⟨hB0, hz0, y0, y1, y2, y3, y4, y5, hsc⟩ := hA
  obtain ⟨hok, cN⟩ := fNew hsc
  have HB := Lib.hid (And.intro hB0 (And.intro hz0 hok))
  have HY := Lib.hid (And.intro y0 (And.intro y1 (And.intro y2 y3)))
  clear hB0 hz0 hok hsc y0 y1 y2 y3
  go_enter Tryz.func3, Tryz.ntmps3
  go_upto_region 2 with fail
  unfold apW box2 at hW0
  rw [← hW0]
  clear hW0
  go_upto_region 9 with (first | (go_at_call 5; refine cN.mono ?_; rintro e W1 ⟨p, rfl, hbe, hB1⟩; have H1 := Lib.hid (And.intro hbe hB1); clear hbe hB1 cN) | (go_at_call 6; refine (fOpen HB.out.2.2 H1.out.1 H1.out.2.size).mono ?_; rintro e W2 ⟨rfl, hbe, hf⟩; have H2 := Lib.hid (And.intro hbe (And.intro (Nat.le_trans H1.out.2.size hf.1.size) hf)); clear hbe hf) | (go_at_call 7; refine (fDo HB.out.2.2 H2.out.1 H2.out.2.1).mono ?_; rintro e W3 ⟨rfl, hbe, hf⟩; have H3 := Lib.hid (And.intro hbe (And.intro (Nat.le_trans H2.out.2.1 hf.1.size) hf)); clear hbe hf) | (go_at_call 8; refine (fCommit HB.out.2.2 H3.out.1 H3.out.2.1).mono ?_; rintro e W4 ⟨rfl, hfc, hf⟩; have H4 := Lib.hid (And.intro hfc (And.intro (Nat.le_trans H3.out.2.1 hf.1.size) hf)); clear hfc hf) | (go_at_call 9; refine (fGraph H4.out.1 H4.out.2.1).mono ?_; rintro e W5 ⟨a5, c5, b5, n5, d5, rfl, hB5⟩; have H5 := Lib.hid hB5; clear hB5))
  have hB5 : Below W0.heap.size W0 W5 := (((H1.out.2.trans H2.out.2.2.1).trans H3.out.2.2.1).trans H4.out.2.2.1).trans (H5.out.mono H4.out.2.1)
  obtain ⟨W6, hW6⟩ : ∃ W6, W6 = W5.alloc (.cells #[.slice a5 1 c5, .slice b5 n5 d5] 29) := ⟨_, rfl⟩
  have hB6 : Below W0.heap.size W0 W6 := by rw [hW6]; exact hB5.trans ((b_alloc (Below.refl _ _) _).mono hB5.size)
  have x0 : W6.cell? ⟨W5.heap.size, 0, none⟩ = some (.slice a5 1 c5) := by rw [hW6]; exact cell_at (heap_alloc_new W5 _) rfl
  have x1 : W6.cell? ⟨W5.heap.size, 1, none⟩ = some (.slice b5 n5 d5) := by rw [hW6]; exact cell_at (heap_alloc_new W5 _) rfl
  have hlt : w.heap.size + 1 < W0.heap.size := by have := HB.out.2.1; omega
  have u0 : W6.cell? ⟨w.heap.size, 0, none⟩ = some (.slice ak nk ck) := (hB6.cell (by show w.heap.size < _; omega)).trans HY.out.1
  have u1 : W6.cell? ⟨w.heap.size, 1, none⟩ = some (.slice ab nb cb) := (hB6.cell (by show w.heap.size < _; omega)).trans HY.out.2.1
  have u2 : W6.cell? ⟨w.heap.size + 1, 0, none⟩ = some (.slice an nn cn) := (hB6.cell (by show w.heap.size + 1 < _; omega)).trans HY.out.2.2.1
  have u3 : W6.cell? ⟨w.heap.size + 1, 1, none⟩ = some (.slice am nm cm) := (hB6.cell (by show w.heap.size + 1 < _; omega)).trans HY.out.2.2.2
  have HB6 : Hid (Below w.heap.size w W6 ∧ w.heap.size + 1 < W6.heap.size) := ⟨HB.out.1.trans (hB6.mono (by omega)), Nat.lt_of_lt_of_le hlt hB6.size⟩
  rw [← hW6]
  clear hB5 hB6 hW6 hlt HY y4 y5 H1 H2 H3 H4 H5 HB
  go_upto_region 11 with fail
  by_cases hA : AllOk N T l
  · have cL := touched_good (HG.out.2.on HB6.out.1) (HL.out.1.on HB6.out.1) (fun o ho => (HL.out.2.1 o ho).1) hA
    by_cases hK : AllOk N T k
    · have HAK := Lib.hid (And.intro hA hK)
      clear hA hK x0 x1
      go_upto_region 12 with (go_at_call 10; refine cL.mono ?_; rintro e W7 ⟨aX, cX, X, rfl, hX, hB7⟩; have H7 : Hid (Below w.heap.size w W7 ∧ w.heap.size + 1 < W7.heap.size) := ⟨on1K HB6.out.1 hB7 (Nat.le_refl _), Nat.lt_of_lt_of_le HB6.out.2 hB7.size⟩; replace u0 := (hB7.cell (by have := HB6.out.2; show w.heap.size < _; omega)).trans u0; replace u1 := (hB7.cell (by have := HB6.out.2; show w.heap.size < _; omega)).trans u1; replace u2 := (hB7.cell (by have := HB6.out.2; show w.heap.size + 1 < _; omega)).trans u2; replace u3 := (hB7.cell (by have := HB6.out.2; show w.heap.size + 1 < _; omega)).trans u3; have HX := Lib.hid hX; clear hB7 hX cL)
      have cK := touched_good (HG.out.2.on H7.out.1) (HK.out.1.on H7.out.1) (fun o ho => (HK.out.2.1 o ho).1) HAK.out.2
      go_upto_region 13 with (go_at_call 10; refine cK.mono ?_; rintro e W8 ⟨aY, cY, Y, rfl, hY, hB8⟩; have H8 : Hid (Below w.heap.size w W8 ∧ w.heap.size + 1 < W8.heap.size) := ⟨on1K H7.out.1 hB8 (Nat.le_refl _), Nat.lt_of_lt_of_le H7.out.2 hB8.size⟩; replace u0 := (hB8.cell (by have := H7.out.2; show w.heap.size < _; omega)).trans u0; replace u1 := (hB8.cell (by have := H7.out.2; show w.heap.size < _; omega)).trans u1; replace u2 := (hB8.cell (by have := H7.out.2; show w.heap.size + 1 < _; omega)).trans u2; replace u3 := (hB8.cell (by have := H7.out.2; show w.heap.size + 1 < _; omega)).trans u3; have HX8 := Lib.hid (And.intro (HX.out.1.on hB8) (And.intro HX.out.2 hY)); clear hB8 hY cK HX)
      go_wp2
      go_loopw [20] (fun i wr => ∃ j : Nat, j ≤ X.length ∧ i = .int .i64 j ∧ wr = W8 ∧ ∀ m x, m < j → X[m]? = some x → x ∉ Y) (fun i _ => X.length - (intOf i).toNat)
      case atStart => exact ⟨0, Nat.zero_le _, rfl, rfl, fun m x h => by omega⟩
      case round =>
        obtain ⟨j, hj, rfl, rfl, hd⟩ := hrel
        have HD := Lib.hid hd
        clear hd
        by_cases hlt : j < X.length
        · obtain ⟨x, hx⟩ : ∃ x, X[j]? = some x := ⟨X[j], by simp [hlt]⟩
          obtain ⟨⟨e1, e2⟩ | ⟨b, cap, e1, e2, e3, e4⟩, _⟩ := HX8.out
          · subst e2; exact absurd hlt (by simp)
          injection e1 with e1 _ e5
          subst e1 e5
          have d0 := e4 j x hx
          have HXj := Lib.hid hx
          have hl5 : X.length ≤ 5000 := HX8.out.2.1.2
          have cI := rin_any HX8.out.2.2.1 HX8.out.2.2.2.2 x
          clear e2 e3 e4 hx
          by_cases hm : x ∈ Y
          · have hc : Y.contains x = true := by simpa using hm
            rw [hc] at cI
            clear hm
            go_wp2_with (go_at_call 11; refine cI.mono ?_; rintro e W9 ⟨rfl, rfl⟩)
            go_ret
            exact ⟨rfl, H8.out.1⟩
          · have hc : Y.contains x = false := by simpa using hm
            rw [hc] at cI
            have HR : Hid (∃ j' : Nat, j' ≤ X.length ∧ Value.int .i64 ((j + 1 : Nat) : Int) = .int .i64 j' ∧ wr = wr ∧ ∀ m x, m < j' → X[m]? = some x → x ∉ Y) := ⟨j + 1, by omega, rfl, rfl, fun m y hmj hy => by
              by_cases e : m = j
              · subst e
                rw [HXj.out] at hy
                rw [← Option.some.inj hy]
                exact hm
              · exact HD.out m y (by omega) hy⟩
            clear hm
            go_wp2_with (go_at_call 11; refine cI.mono ?_; rintro e W9 ⟨rfl, rfl⟩)
            refine ⟨?_, ?_⟩
            · first | exact HR.out | ((repeat apply Exists.intro); refine ⟨?_, rfl⟩; exact HR.out)
            · simp [intOf]
              try omega
        · obtain rfl : j = X.length := by omega
          have hdis : ∀ y ∈ touA T l, y ∉ touA T k := fun y hy hy2 => by
            obtain ⟨m, hm⟩ := List.mem_iff_getElem?.1 ((HX8.out.2.1.1 y).2 hy)
            exact HD.out m y (List.getElem?_eq_some_iff.1 hm).1 hm ((HX8.out.2.2.2.1 y).2 hy2)
          have HDS := Lib.hid hdis
          have c1 := two_any (HG.out.1.on H8.out.1) (HG.out.2.on H8.out.1) (HL.out.1.on H8.out.1) (HK.out.1.on H8.out.1) HAK.out.1.1 HAK.out.2.1 HAK.out.1.2.2 HAK.out.2.2.2 HL.out.2.1 HK.out.2.1 hdis
          have hl5 : X.length ≤ 5000 := HX8.out.2.1.2
          clear hdis HD HX8
          go_upto_region 22 with (go_at_call 12; refine c1.mono ?_; rintro e W9 ⟨a9, n9, c9, b9, m9, d9, z9, rfl, hz9, h9, hB9⟩; have H9 : Hid (z9 ≤ 9 ∧ (z9 = 0 → WyP W9 wr.heap.size (.slice a9 n9 c9) (.slice b9 m9 d9) N T l k) ∧ Below wr.heap.size wr W9) := ⟨hz9, h9, hB9⟩; generalize hv9 : errV z9 = v9; have HV9 := Lib.hid hv9; clear hz9 h9 hB9 hv9 c1)
          obtain ⟨W10, hW10⟩ : ∃ W10, W10 = W9.alloc (.cells #[.slice a9 n9 c9, .slice b9 m9 d9] 29) := ⟨_, rfl⟩
          have hBa : Below W9.heap.size W9 W10 := by rw [hW10]; exact b_alloc (Below.refl _ _) _
          have hB10 : Below wr.heap.size wr W10 := on1K H9.out.2.2 hBa (Nat.le_refl _)
          have q0 : W10.cell? ⟨W9.heap.size, 0, none⟩ = some (.slice a9 n9 c9) := by rw [hW10]; exact cell_at (heap_alloc_new W9 _) rfl
          have q1 : W10.cell? ⟨W9.heap.size, 1, none⟩ = some (.slice b9 m9 d9) := by rw [hW10]; exact cell_at (heap_alloc_new W9 _) rfl
          have hq : W9.heap.size < W10.heap.size := by rw [hW10, World.size_alloc]; omega
          replace u0 := (hB10.cell (by have := H8.out.2; show w.heap.size < _; omega)).trans u0
          replace u1 := (hB10.cell (by have := H8.out.2; show w.heap.size < _; omega)).trans u1
          replace u2 := (hB10.cell (by have := H8.out.2; show w.heap.size + 1 < _; omega)).trans u2
          replace u3 := (hB10.cell (by have := H8.out.2; show w.heap.size + 1 < _; omega)).trans u3
          have H10 : Hid (Below w.heap.size w W10 ∧ w.heap.size + 1 < W10.heap.size ∧ Below W9.heap.size W9 W10 ∧ W9.heap.size < W10.heap.size) := ⟨on1K H8.out.1 hB10 (Nat.le_refl _), Nat.lt_of_lt_of_le H8.out.2 hB10.size, hBa, hq⟩
          have c2 := two_any (HG.out.1.on H10.out.1) (HG.out.2.on H10.out.1) (HK.out.1.on H10.out.1) (HL.out.1.on H10.out.1) HAK.out.2.1 HAK.out.1.1 HAK.out.2.2.2 HAK.out.1.2.2 HK.out.2.1 HL.out.2.1 (fun y h1 h2 => HDS.out y h2 h1)
          rw [← hW10]
          clear hB10 hBa hq hW10
          go_upto_region 23 with (go_at_call 12; refine c2.mono ?_; rintro e W11 ⟨a1, n1, c1, b1, m1, d1, z1, rfl, hz1, h1, hB11⟩; have H11 : Hid (z1 ≤ 9 ∧ (z1 = 0 → WyP W11 W10.heap.size (.slice a1 n1 c1) (.slice b1 m1 d1) N T k l) ∧ Below W10.heap.size W10 W11) := ⟨hz1, h1, hB11⟩; generalize hv1 : errV z1 = v1; have HV1 := Lib.hid hv1; clear hz1 h1 hB11 hv1 c2)
          obtain ⟨W12, hW12⟩ : ∃ W12, W12 = W11.alloc (.cells #[.slice a1 n1 c1, .slice b1 m1 d1] 29) := ⟨_, rfl⟩
          have hBa : Below W11.heap.size W11 W12 := by rw [hW12]; exact b_alloc (Below.refl _ _) _
          have hB12 : Below W10.heap.size W10 W12 := on1K H11.out.2.2 hBa (Nat.le_refl _)
          have r0 : W12.cell? ⟨W11.heap.size, 0, none⟩ = some (.slice a1 n1 c1) := by rw [hW12]; exact cell_at (heap_alloc_new W11 _) rfl
          have r1 : W12.cell? ⟨W11.heap.size, 1, none⟩ = some (.slice b1 m1 d1) := by rw [hW12]; exact cell_at (heap_alloc_new W11 _) rfl
          replace q0 := (hB12.cell (by have := H10.out.2.2.2; show W9.heap.size < _; omega)).trans q0
          replace q1 := (hB12.cell (by have := H10.out.2.2.2; show W9.heap.size < _; omega)).trans q1
          have H12 : Hid (Below w.heap.size w W12) := on1K H10.out.1 hB12 (Nat.le_refl _)
          have hX1 : z9 = 0 → WyP W12 wr.heap.size (.slice a9 n9 c9) (.slice b9 m9 d9) N T l k := fun e => ((H9.out.2.1 e).on H10.out.2.2.1).on hB12
          have hX2 : z1 = 0 → WyP W12 W10.heap.size (.slice a1 n1 c1) (.slice b1 m1 d1) N T k l := fun e => (H11.out.2.1 e).on hBa
          have HX12 := Lib.hid (And.intro hX1 hX2)
          have hh0 : 0 < w.heap.size := cell_lt HH.out
          have E9 : Hid (∀ W, Below w.heap.size w W → Calls Tryz.prog 13 #[v9, .int .i64 10] W fun e w' => e = .returned (.bool false) ∧ Below W.heap.size W w') := fun W hB => by rw [← HV9.out]; exact error_no z9 H9.out.1 W (HH.out.lo hB hh0)
          have E1 : Hid (∀ W, Below w.heap.size w W → Calls Tryz.prog 13 #[v1, .int .i64 10] W fun e w' => e = .returned (.bool false) ∧ Below W.heap.size W w') := fun W hB => by rw [← HV1.out]; exact error_no z1 H11.out.1 W (HH.out.lo hB hh0)
          rw [← hW12]
          clear hB12 hBa hW12 u0 u1 u2 u3 hX1 hX2 hh0 hl5
          by_cases k9 : z9 = 0
          · obtain rfl : v9 = .nilIface := by rw [← HV9.out, k9]; rfl
            by_cases k1 : z1 = 0
            · obtain rfl : v1 = .nilIface := by rw [← HV1.out, k1]; rfl
              have cE := apart_end HAK.out.1 HAK.out.2 HDS.out (HX12.out.1 k9) (HX12.out.2 k1)
              clear k9 k1 E9 E1 HX12 H9 H10 H11 HV9 HV1
              go_wp2_with (go_at_call 14; refine cE.mono ?_; rintro e W13 ⟨rfl, hB13⟩; have H13 := Lib.hid hB13; clear hB13)
              go_ret
              exact ⟨rfl, on1K H12.out H13.out (Nat.le_refl _)⟩
            · obtain rfl : v1 = .iface 79 (.int .i64 z1) := by rw [← HV1.out, errV_ne k1]
              clear k9 k1 HX12 H9 H10 H11 HV9 HV1
              go_wp2_with (first | (go_at_call 13; refine (E9.out _ H12.out).mono ?_; rintro e W13 ⟨rfl, hB13⟩; have H13 : Hid (Below w.heap.size w W13) := on1K H12.out hB13 (Nat.le_refl _); clear hB13 E9) | (go_at_call 13; refine (E1.out _ H13.out).mono ?_; rintro e W14 ⟨rfl, hB14⟩; have H14 : Hid (Below w.heap.size w W14) := on1K H13.out hB14 (Nat.le_refl _); clear hB14))
              go_ret
              exact ⟨rfl, H14.out⟩
          · obtain rfl : v9 = .iface 79 (.int .i64 z9) := by rw [← HV9.out, errV_ne k9]
            clear k9 HX12 H9 H10 H11 HV9 HV1
            go_wp2_with (first | (go_at_call 13; refine (E9.out _ H12.out).mono ?_; rintro e W13 ⟨rfl, hB13⟩; have H13 : Hid (Below w.heap.size w W13) := on1K H12.out hB13 (Nat.le_refl _); clear hB13 E9) | (go_at_call 13; refine (E1.out _ H13.out).mono ?_; rintro e W14 ⟨rfl, hB14⟩; have H14 : Hid (Below w.heap.size w W14) := on1K H13.out hB14 (Nat.le_refl _); clear hB14))
            go_ret
            exact ⟨rfl, H14.out⟩
    · have HAK := Lib.hid (And.intro hA hK)
      clear hA hK x0 x1
      go_upto_region 12 with (go_at_call 10; refine cL.mono ?_; rintro e W7 ⟨aX, cX, X, rfl, hX, hB7⟩; have H7 : Hid (Below w.heap.size w W7 ∧ w.heap.size + 1 < W7.heap.size) := ⟨on1K HB6.out.1 hB7 (Nat.le_refl _), Nat.lt_of_lt_of_le HB6.out.2 hB7.size⟩; replace u0 := (hB7.cell (by have := HB6.out.2; show w.heap.size < _; omega)).trans u0; replace u1 := (hB7.cell (by have := HB6.out.2; show w.heap.size < _; omega)).trans u1; replace u2 := (hB7.cell (by have := HB6.out.2; show w.heap.size + 1 < _; omega)).trans u2; replace u3 := (hB7.cell (by have := HB6.out.2; show w.heap.size + 1 < _; omega)).trans u3; clear hB7 hX cL)
      have cK := touched_bad (HG.out.2.on H7.out.1) (HK.out.1.on H7.out.1) (fun o ho => (HK.out.2.1 o ho).1) HK.out.2.2 HAK.out.2
      go_wp2_with (go_at_call 10; refine cK.mono ?_; rintro e W8 ⟨z8, rfl, hB8⟩; have H8 : Hid (Below w.heap.size w W8) := on1K H7.out.1 hB8 (Nat.le_refl _); clear hB8 cK)
      go_ret
      exact ⟨rfl, H8.out⟩
  · have cL := touched_bad (HG.out.2.on HB6.out.1) (HL.out.1.on HB6.out.1) (fun o ho => (HL.out.2.1 o ho).1) HL.out.2.2 hA
    clear hA x0 x1
    go_upto_region 12 with (go_at_call 10; refine cL.mono ?_; rintro e W7 ⟨z7, rfl, hB7⟩; have H7 : Hid (Below w.heap.size w W7 ∧ w.heap.size + 1 < W7.heap.size) := ⟨on1K HB6.out.1 hB7 (Nat.le_refl _), Nat.lt_of_lt_of_le HB6.out.2 hB7.size⟩; replace u0 := (hB7.cell (by have := HB6.out.2; show w.heap.size < _; omega)).trans u0; replace u1 := (hB7.cell (by have := HB6.out.2; show w.heap.size < _; omega)).trans u1; replace u2 := (hB7.cell (by have := HB6.out.2; show w.heap.size + 1 < _; omega)).trans u2; replace u3 := (hB7.cell (by have := HB6.out.2; show w.heap.size + 1 < _; omega)).trans u3; clear hB7 cL)
    have cK := touched_weak (HG.out.2.on H7.out.1) (HK.out.1.on H7.out.1) (fun o ho => (HK.out.2.1 o ho).1) HK.out.2.2
    go_wp2_with (go_at_call 10; refine cK.mono ?_; rintro e W8 ⟨a8, n8, c8, z8, rfl, hB8⟩; have H8 : Hid (Below w.heap.size w W8) := on1K H7.out.1 hB8 (Nat.le_refl _); generalize errV z8 = v8; clear hB8 cK)
    go_ret
    exact ⟨rfl, H8.out⟩
end Go.Proofs.YtikjmingkadjcaaGreatDoor
