/-
  Two sessions of a base, seen from outside.
-/
import Derived.Test.YtifhigajonafdaaGreatS43
import Derived.Test.YtifhigajonafdaaGreatS44
import Derived.Test.YtifhigajonafdaaGreatS45
import Derived.Test.YtifhigajonafdaaGreatS39
import Derived.Test.YtifhigajonafdaaGreatS42
import Derived.Test.YtifhigajonafdaaGreatS32
namespace Go.Proofs.YtifhigajonafdaaGreat
open Go.RowKit
set_option linter.unusedVariables false
set_option linter.unusedSimpArgs false

theorem isSc_slD {w : World} {v : Value} {L : List Kd} {B : List Bd} (h : IsSc w v L B) : ∃ a n c b m d, v = .agg #[.slice a n c, .slice b m d] := by
  obtain ⟨vk, vb, rfl, hK, _, _, hb, _⟩ := h
  obtain ⟨a, c, rfl, _⟩ := hK.sln
  obtain ⟨b, d, rfl, _⟩ := hb.sln
  exact ⟨_, _, _, _, _, _, rfl⟩
def nwS (L : List Kd) (B : List Bd) (N : List Nd) (T : List Te) : Bs := ⟨L, B, cN N, T, fun _ => none, 0, 0, 0, 0⟩
theorem nwS_ok {L : List Kd} {B : List Bd} {N : List Nd} {T : List Te} (h : cfE L B N T = 0) (hz : SzK L) (hzb : SzB B) : BsOk (nwS L B N T) :=
  ⟨(by show cfE L B (cN N) T = 0; rw [cfE_c]; exact h), hz, hzb, fun i x hx => (by cases hx), Nat.zero_le _, Nat.zero_le _, Nat.zero_le _, fun i hi => absurd rfl hi⟩
structure SeX (N : List Nd) (T : List Te) (j : Nat) (x : Ss) : Prop where
  gN : x.gN = N
  gT : x.gT = T
  nX : x.X = []
  le : x.O.length ≤ j
structure TwQ (L : List Kd) (B : List Bd) (N : List Nd) (T : List Te) (i j : Nat) (x y : Ss) (s : Bs) : Prop where
  ok : BsOk s
  eL : s.L = L
  eB : s.B = B
  eN : s.N = N
  eT : s.T = T
  ag : s.age = 0
  f1 : s.F 1 = some x
  f2 : s.F 2 = some y
  h1 : SeX N T i x
  h2 : SeX N T j y
theorem SeX.more {N : List Nd} {T : List Te} {j : Nat} {x : Ss} (h : SeX N T j x) : SeX N T (j + 1) x := ⟨h.gN, h.gT, h.nX, Nat.le_succ_of_le h.le⟩
theorem SeX.do {N : List Nd} {T : List Te} {j : Nat} {x : Ss} (h : SeX N T j x) (o : Opx) : SeX N T (j + 1) (ssDo x o) := ⟨h.gN, h.gT, h.nX, by show (x.O ++ [o.c]).length ≤ _; simp; exact h.le⟩
def s00 (N : List Nd) (T : List Te) : Ss := ⟨N, T, [], N, T, []⟩
theorem tq_open {L : List Kd} {B : List Bd} {N : List Nd} {T : List Te} (hok : BsOk (nwS L B N T)) : TwQ L B (cN N) T 0 0 (s00 (cN N) T) (s00 (cN N) T) (openS (openS (nwS L B N T))) :=
  ⟨openS_ok (openS_ok hok (by show (0 : Nat) < 1000; omega)) (by show (1 : Nat) < 1000; omega), rfl, rfl, rfl, rfl, rfl, by simp [openS, upd, nwS, s00], by simp [openS, upd, nwS, s00], ⟨rfl, rfl, rfl, Nat.le_refl _⟩, ⟨rfl, rfl, rfl, Nat.le_refl _⟩⟩
def TqB (w : World) (base p : Nat) (L : List Kd) (B : List Bd) (N : List Nd) (T : List Te) (i j : Nat) (x y : Ss) : Prop := ∃ s, Be w base p s ∧ TwQ L B N T i j x y s
theorem TqB.on {w w' : World} {base p : Nat} {L : List Kd} {B : List Bd} {N : List Nd} {T : List Te} {i j : Nat} {x y : Ss} (h : TqB w base p L B N T i j x y) (hB : Below w.heap.size w w') : TqB w' base p L B N T i j x y := let ⟨s, ⟨l, h1⟩, h2⟩ := h; ⟨s, ⟨l, h1.on hB⟩, h2⟩
def RcB (l : List Opx) : Prop := ∀ o ∈ l, OpSz o ∧ o.nd.rc.length ≤ 2932031007402
theorem tqDo1 {W : World} {base p : Nat} {L : List Kd} {B : List Bd} {N : List Nd} {T : List Te} {i j : Nat} {x y : Ss} {o : Opx} (h : TqB W base p L B N T i j x y) (hb : base ≤ W.heap.size) (hi : i < 30) (hz : OpSz o ∧ o.nd.rc.length ≤ 2932031007402) (hR : IsR W o.nd.rv o.nd.rc) :
    Calls Tryz.prog 7 #[.pointer (some ⟨p, 0, none⟩), .int .i64 1, o.one] W fun e w' => (∃ v, e = .returned v) ∧ (∃ x', TqB w' base p L B N T (i + 1) j x' y) ∧ Fr base W w' := by
  obtain ⟨s, hbe, hs⟩ := h
  have hl : x.O.length < 40 := by have := hs.h1.le; omega
  by_cases e0 : opE o x.eN x.eT = 0
  · refine (sdo_yes hbe hs.ok hs.f1 hl hR hz.1 hz.2 e0 hb).mono fun e w' hP => ?_
    refine ⟨⟨_, hP.1⟩, ⟨ssDo x o, _, hP.2.1, doS_ok hs.ok hs.f1 hl hz.1 e0, hs.eL, hs.eB, hs.eN, hs.eT, hs.ag, by simp [doS, upd], by simp [doS, upd, hs.f2], hs.h1.do o, hs.h2⟩, hP.2.2⟩
  · refine (sdo_no hbe hs.ok hs.f1 hl hR hz.1 e0 hb).mono fun e w' hP => ?_
    obtain ⟨l, hl'⟩ := hbe
    exact ⟨hP.1, ⟨x, s, ⟨l, hl'.on hP.2⟩, hs.ok, hs.eL, hs.eB, hs.eN, hs.eT, hs.ag, hs.f1, hs.f2, hs.h1.more, hs.h2⟩, .of_below hP.2 hb⟩
theorem tqDo2 {W : World} {base p : Nat} {L : List Kd} {B : List Bd} {N : List Nd} {T : List Te} {i j : Nat} {x y : Ss} {o : Opx} (h : TqB W base p L B N T i j x y) (hb : base ≤ W.heap.size) (hi : j < 30) (hz : OpSz o ∧ o.nd.rc.length ≤ 2932031007402) (hR : IsR W o.nd.rv o.nd.rc) :
    Calls Tryz.prog 7 #[.pointer (some ⟨p, 0, none⟩), .int .i64 2, o.one] W fun e w' => (∃ v, e = .returned v) ∧ (∃ y', TqB w' base p L B N T i (j + 1) x y') ∧ Fr base W w' := by
  obtain ⟨s, hbe, hs⟩ := h
  have hl : y.O.length < 40 := by have := hs.h2.le; omega
  by_cases e0 : opE o y.eN y.eT = 0
  · refine (sdo_yes hbe hs.ok hs.f2 hl hR hz.1 hz.2 e0 hb).mono fun e w' hP => ?_
    refine ⟨⟨_, hP.1⟩, ⟨ssDo y o, _, hP.2.1, doS_ok hs.ok hs.f2 hl hz.1 e0, hs.eL, hs.eB, hs.eN, hs.eT, hs.ag, by simp [doS, upd, hs.f1], by simp [doS, upd], hs.h1, hs.h2.do o⟩, hP.2.2⟩
  · refine (sdo_no hbe hs.ok hs.f2 hl hR hz.1 e0 hb).mono fun e w' hP => ?_
    obtain ⟨l, hl'⟩ := hbe
    exact ⟨hP.1, ⟨y, s, ⟨l, hl'.on hP.2⟩, hs.ok, hs.eL, hs.eB, hs.eN, hs.eT, hs.ag, hs.f1, hs.f2, hs.h1, hs.h2.more⟩, .of_below hP.2 hb⟩
def SeG (W : World) (b : Nat) (v u : Value) (N : List Nd) (T : List Te) : Prop := ∃ M, cN M = N ∧ OwnNs W b v M ∧ OwnTs W b u T ∧ gErr N T = 0
theorem SeG.on {W W' : World} {b : Nat} {v u : Value} {N : List Nd} {T : List Te} (h : SeG W b v u N T) (hB : Below W.heap.size W W') : SeG W' b v u N T :=
  let ⟨M, c, o, t, g⟩ := h
  ⟨M, c, o.kt (.of_below hB) (.of_below hB), t.kt (.of_below hB), g⟩
theorem SeG.kt {W W' : World} {b : Nat} {v u : Value} {N : List Nd} {T : List Te} (h : SeG W b v u N T) (k1 : Kt 48 W W') (k2 : Kt 52 W W') (k3 : Kt 54 W W') : SeG W' b v u N T :=
  let ⟨M, c, o, t, g⟩ := h
  ⟨M, c, o.kt k1 k2, t.kt k3, g⟩
theorem SeG.fr {W W' : World} {base b : Nat} {v u : Value} {N : List Nd} {T : List Te} (h : SeG W b v u N T) (hf : Fr base W W') : SeG W' b v u N T := h.kt (hf.2 _ (by decide) (by decide) (by decide)) (hf.2 _ (by decide) (by decide) (by decide)) (hf.2 _ (by decide) (by decide) (by decide))
theorem seG_isG {W : World} {b : Nat} {v u : Value} {N : List Nd} {T : List Te} (h : SeG W b v u N T) : ∃ M, cN M = N ∧ IsG W (.agg #[v, u]) M T := by
  obtain ⟨M, c, o, t, g⟩ := h
  subst c
  have hg : gErr M T = 0 := by rw [← gErr_c]; exact g
  obtain ⟨l60, l120, _⟩ := gErr_lens hg
  obtain ⟨z1, z2⟩ := gErr_sz hg
  exact ⟨M, rfl, _, _, rfl, o.isN, t.isT, z1, z2, by unfold maxLen; omega, by unfold maxLen; omega⟩
theorem seG_same {W : World} {vg wg : Value} {N M : List Nd} {T : List Te} (h1 : IsG W vg N T) (h2 : IsG W wg M T) (hc : cN N = cN M) (hg : gErr (cN N) T = 0) :
    Calls Tryz.prog 9 #[vg, wg] W fun e w' => e = .returned (.bool true) ∧ Below W.heap.size W w' := by
  obtain ⟨vn, vt, rfl, a1, a2, _⟩ := h1
  obtain ⟨un, ut, rfl, b1, b2, _⟩ := h2
  rw [gErr_c] at hg
  obtain ⟨l60, l120, _⟩ := gErr_lens hg
  exact graph_same a1 a2 b1 b2 hc (by omega) (by omega) (fun n hn => by have := gErr_rc8 hg n hn; omega)
theorem tqSee1 {W : World} {base p : Nat} {L : List Kd} {B : List Bd} {N : List Nd} {T : List Te} {i j : Nat} {x y : Ss} (h : TqB W base p L B N T i j x y) (hb : base ≤ W.heap.size) :
    Calls Tryz.prog 8 #[.pointer (some ⟨p, 0, none⟩), .int .i64 1] W fun e w' => ∃ a n c a' n' c', e = .returned (.tuple #[.agg #[.slice a n c, .slice a' n' c'], .nilIface]) ∧ SeG w' W.heap.size (.slice a n c) (.slice a' n' c') x.eN x.eT ∧ Below W.heap.size W w' := by
  obtain ⟨s, hbe, hs⟩ := h
  refine (see_any hbe hs.ok hs.f1 hb).mono fun e w' hP => ?_
  obtain ⟨a, n, c, a', n', c', M, rfl, ⟨r1, r2, r3⟩, hB⟩ := hP
  exact ⟨_, _, _, _, _, _, rfl, ⟨M, r1, r2, r3, (hs.ok.so _ _ hs.f1).1.eg⟩, hB⟩
theorem tqSee2 {W : World} {base p : Nat} {L : List Kd} {B : List Bd} {N : List Nd} {T : List Te} {i j : Nat} {x y : Ss} (h : TqB W base p L B N T i j x y) (hb : base ≤ W.heap.size) :
    Calls Tryz.prog 8 #[.pointer (some ⟨p, 0, none⟩), .int .i64 2] W fun e w' => ∃ a n c a' n' c', e = .returned (.tuple #[.agg #[.slice a n c, .slice a' n' c'], .nilIface]) ∧ SeG w' W.heap.size (.slice a n c) (.slice a' n' c') y.eN y.eT ∧ Below W.heap.size W w' := by
  obtain ⟨s, hbe, hs⟩ := h
  refine (see_any hbe hs.ok hs.f2 hb).mono fun e w' hP => ?_
  obtain ⟨a, n, c, a', n', c', M, rfl, ⟨r1, r2, r3⟩, hB⟩ := hP
  exact ⟨_, _, _, _, _, _, rfl, ⟨M, r1, r2, r3, (hs.ok.so _ _ hs.f2).1.eg⟩, hB⟩
def SeC (w : World) (base p : Nat) (L : List Kd) (B : List Bd) (N : List Nd) (T : List Te) (x y : Ss) (a : Nat) : Prop :=
  ∃ s y', Be w base p s ∧ BsOk s ∧ s.L = L ∧ s.B = B ∧ s.age = a ∧ (a = 0 ∧ s.N = N ∧ s.T = T ∨ a = 1 ∧ s.N = x.eN ∧ s.T = x.eT) ∧ s.F 2 = some y' ∧ y'.eN = y.eN ∧ y'.eT = y.eT
theorem SeC.on {w w' : World} {base p : Nat} {L : List Kd} {B : List Bd} {N : List Nd} {T : List Te} {x y : Ss} {a : Nat} (h : SeC w base p L B N T x y a) (hB : Below w.heap.size w w') : SeC w' base p L B N T x y a := let ⟨s, y', ⟨l, h1⟩, h2⟩ := h; ⟨s, y', ⟨l, h1.on hB⟩, h2⟩
theorem tqCommit {W : World} {base p : Nat} {L : List Kd} {B : List Bd} {N : List Nd} {T : List Te} {i j : Nat} {x y : Ss} (h : TqB W base p L B N T i j x y) (hb : base ≤ W.heap.size) :
    Calls Tryz.prog 10 #[.pointer (some ⟨p, 0, none⟩), .int .i64 1] W fun e w' => (∃ v, e = .returned v) ∧ (∃ a, SeC w' base p L B N T x y a) ∧ Fr base W w' := by
  obtain ⟨s, hbe, hs⟩ := h
  have hsx := (hs.ok.so _ _ hs.f1).1
  refine (scommit_any hbe hs.ok hs.f1 (by rw [hs.ag]; omega) hb).mono fun e w' hP => ?_
  obtain ⟨rfl, hf, hne, heq⟩ := hP
  refine ⟨⟨_, rfl⟩, ?_, hf⟩
  by_cases hc : cmE s x = 0
  · obtain ⟨X, h64, hX, hbe'⟩ := heq hc
    have hw : wE s x.O = 0 := by
      unfold cmE at hc
      split at hc
      · cases hc
      · exact hc
    have hr : opS.res x.O s.N s.T = (x.eN, x.eT) := by
      have := hsx.r0
      rw [hs.h1.gN, hs.h1.gT] at this
      rw [hs.eN, hs.eT]
      exact this
    refine ⟨1, _, y.tk X, hbe', cmS_ok hs.ok hs.f1 (by rw [hs.ag]; omega) hw h64, hs.eL, hs.eB, by show s.age + 1 = 1; rw [hs.ag], .inr ⟨rfl, ?_, ?_⟩, ?_, rfl, rfl⟩
    · exact congrArg Prod.fst hr
    · exact congrArg Prod.snd hr
    · show (dropI s.F 1 2).map (fun x => x.tk X) = _
      unfold dropI
      rw [if_neg (by decide), hs.f2]
      rfl
  · exact ⟨0, s, y, hne hc, hs.ok, hs.eL, hs.eB, hs.ag, .inl ⟨rfl, hs.eN, hs.eT⟩, hs.f2, rfl, rfl⟩
theorem scSee {W : World} {base p : Nat} {L : List Kd} {B : List Bd} {N : List Nd} {T : List Te} {x y : Ss} {a : Nat} (h : SeC W base p L B N T x y a) (hb : base ≤ W.heap.size) :
    Calls Tryz.prog 8 #[.pointer (some ⟨p, 0, none⟩), .int .i64 2] W fun e w' => ∃ a n c a' n' c', e = .returned (.tuple #[.agg #[.slice a n c, .slice a' n' c'], .nilIface]) ∧ SeG w' W.heap.size (.slice a n c) (.slice a' n' c') y.eN y.eT ∧ Below W.heap.size W w' := by
  obtain ⟨s, y', hbe, hok, _, _, _, _, hF, e1, e2⟩ := h
  refine (see_any hbe hok hF hb).mono fun e w' hP => ?_
  obtain ⟨a, n, c, a', n', c', M, rfl, ⟨r1, r2, r3⟩, hB⟩ := hP
  rw [e1] at r1
  rw [e2] at r3
  refine ⟨_, _, _, _, _, _, rfl, ⟨M, r1, r2, r3, ?_⟩, hB⟩
  have := (hok.so _ _ hF).1.eg
  rwa [e1, e2] at this
theorem scAge {W : World} {base p : Nat} {L : List Kd} {B : List Bd} {N : List Nd} {T : List Te} {x y : Ss} {a : Nat} (h : SeC W base p L B N T x y a) :
    Calls Tryz.prog 12 #[.pointer (some ⟨p, 0, none⟩)] W fun e w' => e = .returned (.int .i64 a) ∧ w' = W := by
  obtain ⟨s, y', hbe, _, _, _, ha, _⟩ := h
  rw [← ha]
  exact sage_any hbe
def nowN (N : List Nd) (x : Ss) (a : Nat) : List Nd := if a = 1 then x.eN else N
def nowT (T : List Te) (x : Ss) (a : Nat) : List Te := if a = 1 then x.eT else T
theorem sc_now {W : World} {base p : Nat} {L : List Kd} {B : List Bd} {N : List Nd} {T : List Te} {x y : Ss} {a : Nat} (h : SeC W base p L B N T x y a) : a ≤ 1 ∧ cfE L B (nowN N x a) (nowT T x a) = 0 := by
  obtain ⟨s, y', _, hok, rfl, rfl, _, h1 | h1, _⟩ := h
  · obtain ⟨rfl, rfl, rfl⟩ := h1
    exact ⟨by omega, hok.c0⟩
  · obtain ⟨rfl, h2, h3⟩ := h1
    refine ⟨by omega, ?_⟩
    have := hok.c0
    rw [h2, h3] at this
    exact this
theorem scGraph {W : World} {base p : Nat} {L : List Kd} {B : List Bd} {N : List Nd} {T : List Te} {x y : Ss} {a : Nat} (h : SeC W base p L B N T x y a) (hb : base ≤ W.heap.size) :
    Calls Tryz.prog 11 #[.pointer (some ⟨p, 0, none⟩)] W fun e w' => ∃ v n c v' n' c', e = .returned (.agg #[.slice v n c, .slice v' n' c']) ∧ SeG w' W.heap.size (.slice v n c) (.slice v' n' c') (nowN N x a) (nowT T x a) ∧ Below W.heap.size W w' := by
  obtain ⟨s, y', hbe, hok, hL, hB', ha, h1, _⟩ := h
  refine (sgraph_any hbe hok hb).mono fun e w' hP => ?_
  obtain ⟨v, n, c, v', n', c', M, rfl, ⟨r1, r2, r3⟩, hB⟩ := hP
  obtain ⟨_, hg, _⟩ := cfE_zero hok.c0
  refine ⟨_, _, _, _, _, _, rfl, ⟨M, ?_, r2, ?_, ?_⟩, hB⟩
  · rcases h1 with ⟨rfl, h2, h3⟩ | ⟨rfl, h2, h3⟩
    · rw [r1, h2]; rfl
    · rw [r1, h2]; rfl
  · rcases h1 with ⟨rfl, h2, h3⟩ | ⟨rfl, h2, h3⟩
    · rw [h3] at r3; exact r3
    · rw [h3] at r3; exact r3
  · rcases h1 with ⟨rfl, h2, h3⟩ | ⟨rfl, h2, h3⟩
    · rw [h2, h3] at hg; exact hg
    · rw [h2, h3] at hg; exact hg
def SeA (w : World) (base p : Nat) (N : List Nd) (T : List Te) : Prop := ∃ s, Be w base p s ∧ BsOk s ∧ s.N = N ∧ s.T = T
theorem scAbort {W : World} {base p : Nat} {L : List Kd} {B : List Bd} {N : List Nd} {T : List Te} {x y : Ss} {a : Nat} (h : SeC W base p L B N T x y a) (hb : base ≤ W.heap.size) :
    Calls Tryz.prog 14 #[.pointer (some ⟨p, 0, none⟩), .int .i64 2] W fun e w' => e = .returned .nilIface ∧ SeA w' base p (nowN N x a) (nowT T x a) ∧ Fr base W w' := by
  obtain ⟨s, y', hbe, hok, hL, hB', ha, h1, hF, _⟩ := h
  refine (sabort_any hbe hok hF hb).mono fun e w' hP => ?_
  refine ⟨hP.1, ⟨_, hP.2.1, dropS_ok hok 2, ?_, ?_⟩, hP.2.2⟩
  · show s.N = _
    rcases h1 with ⟨rfl, h2, h3⟩ | ⟨rfl, h2, h3⟩
    · exact h2
    · exact h2
  · show s.T = _
    rcases h1 with ⟨rfl, h2, h3⟩ | ⟨rfl, h2, h3⟩
    · exact h3
    · exact h3
theorem saGraph {W : World} {base p : Nat} {N : List Nd} {T : List Te} (h : SeA W base p N T) (hb : base ≤ W.heap.size) :
    Calls Tryz.prog 11 #[.pointer (some ⟨p, 0, none⟩)] W fun e w' => ∃ v n c v' n' c', e = .returned (.agg #[.slice v n c, .slice v' n' c']) ∧ SeG w' W.heap.size (.slice v n c) (.slice v' n' c') N T ∧ Below W.heap.size W w' := by
  obtain ⟨s, hbe, hok, hN, hT⟩ := h
  refine (sgraph_any hbe hok hb).mono fun e w' hP => ?_
  obtain ⟨v, n, c, v', n', c', M, rfl, ⟨r1, r2, r3⟩, hB⟩ := hP
  obtain ⟨_, hg, _⟩ := cfE_zero hok.c0
  rw [hN, hT] at hg
  rw [hN] at r1
  rw [hT] at r3
  exact ⟨_, _, _, _, _, _, rfl, ⟨M, r1, r2, r3, hg⟩, hB⟩
theorem BeL.off {w w' : World} {base p : Nat} {l : Bl} {s : Bs} (h : BeL w base p l s) {g : Nat} (hg : Ty w g 29) (hx : Bx w.heap.size [g] w w') : BeL w' base p l s := by
  have k : ∀ t, 29 ≠ t → Kt t w w' := fun t ht => kt_bx hx fun x hm => .inr ⟨29, ht, by rw [List.mem_singleton.1 hm]; exact hg⟩
  have blk : ∀ x, x < w.heap.size → x ≠ g → w'.heap[x]? = w.heap[x]? := fun x hl hn => hx.block x hl (by simpa using hn)
  refine ⟨(blk p (Array.getElem?_eq_some_iff.1 h.cs).1 (Ty.ne ⟨_, h.cs⟩ hg (by decide))).trans h.cs, h.bp, h.bm, ⟨h.sc.1, h.sc.2.1.kt (k _ (by decide)) (k _ (by decide)) (k _ (by decide)), own_kt h.sc.2.2 (k _ (by decide))⟩, ⟨h.gr.1, h.gr.2.1.kt (k _ (by decide)) (k _ (by decide)), h.gr.2.2.kt (k _ (by decide))⟩, h.mp.of_block (blk _ h.mp.lt (fun e => Ty.nem hg h.mp.is_map e.symm)), fun i x hi => ?_, h.ap⟩
  obtain ⟨hs, hm⟩ := h.ss i x hi
  obtain ⟨l1, l2, l3, l4, l5⟩ := hs.lts
  exact ⟨hs.stay (blk _ l1 (Ty.ne l4 hg (by decide))) (blk _ l2 (fun e => Ty.nem hg l5 e.symm)) (fun g' hg' => blk g' (l3 g' hg').2.1 (Ty.ne (l3 g' hg').2.2 hg (by decide))) (k _ (by decide)) (k _ (by decide)) (k _ (by decide)), hm⟩
theorem TqB.off {w : World} {base p : Nat} {L : List Kd} {B : List Bd} {N : List Nd} {T : List Te} {i j : Nat} {x y : Ss} (h : TqB w base p L B N T i j x y) {g : Nat} (hg : Ty w g 29) (a b : Value) : TqB ((w.setCell ⟨g, 0, none⟩ a).setCell ⟨g, 1, none⟩ b) base p L B N T i j x y :=
  let ⟨s, ⟨l, h1⟩, h2⟩ := h
  ⟨s, ⟨l, h1.off hg (bx_set (bx_set (.of_below (Below.refl _ _) (Nat.le_refl _)) (.inl (by simp)) _ _) (.inl (by simp)) _ _)⟩, h2⟩
theorem SeG.off {w : World} {b : Nat} {v u : Value} {N : List Nd} {T : List Te} (h : SeG w b v u N T) {g : Nat} (hg : Ty w g 29) (x y : Value) : SeG ((w.setCell ⟨g, 0, none⟩ x).setCell ⟨g, 1, none⟩ y) b v u N T := by
  have k : ∀ t, 29 ≠ t → Kt t w ((w.setCell ⟨g, 0, none⟩ x).setCell ⟨g, 1, none⟩ y) := fun t ht => ((Kt.refl _ _).ty hg ht _ _).ty (hg.set _ _ _) ht _ _
  exact h.kt (k _ (by decide)) (k _ (by decide)) (k _ (by decide))
end Go.Proofs.YtifhigajonafdaaGreat

/-
  SessionSees: the law's fact, and the blocks ahead of it.
-/
namespace Go.Proofs.YtifhigajonafdaaGreat
open Go.RowKit
set_option linter.unusedVariables false
set_option linter.unusedSimpArgs false

def fK : Kd := ⟨[97], [], [], .slice none 0 0, .slice none 0 0⟩
theorem f_cf : cfE [fK] [] [] [] = 0 := by decide +kernel
def fS0 : Bs := nwS [fK] [] [] []
theorem isG0 (W : World) : IsG W (.agg #[.slice none 0 0, .slice none 0 0]) [] [] :=
  ⟨_, _, rfl, ⟨none, 0, rfl, Nat.le_refl _, .inl rfl⟩, ⟨none, 0, rfl, Nat.le_refl _, .inl rfl⟩, fun n hn => (by cases hn), fun n hn => (by cases hn), Nat.zero_le _, Nat.zero_le _⟩
theorem fNew {W : World} {vs : Value} (h : IsSc W vs [fK] []) : BsOk fS0 ∧ Calls Tryz.prog 4 #[vs, .agg #[.slice none 0 0, .slice none 0 0]] W fun e w' => ∃ p, e = .returned (.tuple #[.pointer (some ⟨p, 0, none⟩), .nilIface]) ∧ Be w' W.heap.size p fS0 ∧ Below W.heap.size W w' :=
  ⟨nwS_ok f_cf (let ⟨_, _, _, _, _, h, _⟩ := h; h) (let ⟨_, _, _, _, _, _, _, h⟩ := h; h), snew_yes h (isG0 W) f_cf⟩
theorem fOpen {W : World} {base p : Nat} (hok : BsOk fS0) (hb : Be W base p fS0) (hle : base ≤ W.heap.size) : Calls Tryz.prog 5 #[.pointer (some ⟨p, 0, none⟩)] W fun e w' => e = .returned (.tuple #[.int .i64 1, .nilIface]) ∧ Be w' base p (openS fS0) ∧ Fr base W w' :=
  (sopen_any hb hok (by show (0 : Nat) < 4; omega) (by show (0 : Nat) < 1000; omega) hle).mono fun e w' h => ⟨h.1, h.2⟩
theorem fIds {W : World} {base p : Nat} (hok : BsOk fS0) (hb : Be W base p (openS fS0)) : Calls Tryz.prog 6 #[.pointer (some ⟨p, 0, none⟩)] W fun e w' => ∃ a c, e = .returned (.slice a 1 c) ∧ Below W.heap.size W w' :=
  sids_any hb (openS_ok hok (by show (0 : Nat) < 1000; omega))
theorem qNew {W : World} {vs vg : Value} {L : List Kd} {B : List Bd} {N : List Nd} {T : List Te} (hs : IsSc W vs L B) (hg : IsG W vg N T) (h0 : cfE L B N T = 0) : BsOk (nwS L B N T) ∧ Calls Tryz.prog 4 #[vs, vg] W fun e w' => ∃ p, e = .returned (.tuple #[.pointer (some ⟨p, 0, none⟩), .nilIface]) ∧ Be w' W.heap.size p (nwS L B N T) ∧ Below W.heap.size W w' :=
  ⟨nwS_ok h0 (let ⟨_, _, _, _, _, h, _⟩ := hs; h) (let ⟨_, _, _, _, _, _, _, h⟩ := hs; h), snew_yes hs hg h0⟩
theorem qOpen1 {W : World} {base p : Nat} {L : List Kd} {B : List Bd} {N : List Nd} {T : List Te} (hok : BsOk (nwS L B N T)) (hb : Be W base p (nwS L B N T)) (hle : base ≤ W.heap.size) : Calls Tryz.prog 5 #[.pointer (some ⟨p, 0, none⟩)] W fun e w' => e = .returned (.tuple #[.int .i64 1, .nilIface]) ∧ Be w' base p (openS (nwS L B N T)) ∧ Fr base W w' :=
  (sopen_any hb hok (by show (0 : Nat) < 4; omega) (by show (0 : Nat) < 1000; omega) hle).mono fun e w' h => ⟨h.1, h.2⟩
theorem qOpen2 {W : World} {base p : Nat} {L : List Kd} {B : List Bd} {N : List Nd} {T : List Te} (hok : BsOk (nwS L B N T)) (hb : Be W base p (openS (nwS L B N T))) (hle : base ≤ W.heap.size) : Calls Tryz.prog 5 #[.pointer (some ⟨p, 0, none⟩)] W fun e w' => e = .returned (.tuple #[.int .i64 2, .nilIface]) ∧ TqB w' base p L B (cN N) T 0 0 (s00 (cN N) T) (s00 (cN N) T) ∧ Fr base W w' :=
  (sopen_any hb (openS_ok hok (by show (0 : Nat) < 1000; omega)) (by show (1 : Nat) < 4; omega) (by show (1 : Nat) < 1000; omega) hle).mono fun e w' h => ⟨h.1, ⟨_, h.2.1, tq_open hok⟩, h.2.2⟩
theorem qConf {W : World} {vs : Value} {b : Nat} {v u : Value} {L : List Kd} {B : List Bd} {N : List Nd} {T : List Te} (hs : IsSc W vs L B) (hg : SeG W b v u N T) (h0 : cfE L B N T = 0) : Calls Tryz.prog 13 #[vs, .agg #[v, u]] W fun e w' => e = .returned (.tuple #[.bool true, .nilIface]) ∧ Below W.heap.size W w' := by
  obtain ⟨M, hc, hG⟩ := seG_isG hg
  rw [← hc, cfE_c] at h0
  have c := conforms_any hs hG
  unfold cfE at h0
  by_cases hi : inE L B M T = 0
  · rw [if_pos hi] at h0
    by_cases hb : confB L B M T = true
    · rw [hi, hb] at c; exact c
    · rw [if_neg hb] at h0; cases h0
  · rw [if_neg hi] at h0; exact absurd h0 hi
abbrev apW (w : World) (a b c d : Value) : World := ((box2 w #[a, b] 25 #[c, d] 29).alloc (.cells #[.string ⟨#[97]⟩, .slice none 0 0, .slice none 0 0] 34)).alloc (.cells #[.slice (some ⟨w.heap.size + 1 + 1, 0, none⟩) 1 1, .slice none 0 0] 25)
theorem apW_all (w : World) (a b c d : Value) : Below w.heap.size w (apW w a b c d) ∧ (apW w a b c d).heap.size = w.heap.size + 4 ∧
    (apW w a b c d).cell? ⟨w.heap.size, 0, none⟩ = some a ∧ (apW w a b c d).cell? ⟨w.heap.size, 1, none⟩ = some b ∧ (apW w a b c d).cell? ⟨w.heap.size + 1, 0, none⟩ = some c ∧ (apW w a b c d).cell? ⟨w.heap.size + 1, 1, none⟩ = some d ∧
    (apW w a b c d).cell? ⟨w.heap.size + 1 + 1 + 1, 0, none⟩ = some (.slice (some ⟨w.heap.size + 1 + 1, 0, none⟩) 1 1) ∧ (apW w a b c d).cell? ⟨w.heap.size + 1 + 1 + 1, 1, none⟩ = some (.slice none 0 0) ∧
    IsSc (apW w a b c d) (.agg #[.slice (some ⟨w.heap.size + 1 + 1, 0, none⟩) 1 1, .slice none 0 0]) [fK] [] := by
  have hz : (box2 w #[a, b] 25 #[c, d] 29).heap.size = w.heap.size + 2 := box2_size _ _ _ _ _
  obtain ⟨A, hA⟩ : ∃ A, A = (box2 w #[a, b] 25 #[c, d] 29).alloc (.cells #[.string ⟨#[97]⟩, .slice none 0 0, .slice none 0 0] 34) := ⟨_, rfl⟩
  have hzA : A.heap.size = w.heap.size + 3 := by rw [hA, World.size_alloc, hz]
  have hn := heap_alloc_new (box2 w #[a, b] 25 #[c, d] 29) (.cells #[.string ⟨#[97]⟩, .slice none 0 0, .slice none 0 0] 34)
  rw [← hA, hz] at hn
  have hm := heap_alloc_new A (.cells #[.slice (some ⟨w.heap.size + 1 + 1, 0, none⟩) 1 1, .slice none 0 0] 25)
  rw [hzA] at hm
  have hB : Below w.heap.size w A := by rw [hA]; exact b_alloc (box2_below _ _ _ _ _) _
  have old : ∀ {p : Addr} {v : Value}, (box2 w #[a, b] 25 #[c, d] 29).cell? p = some v → (A.alloc (.cells #[.slice (some ⟨w.heap.size + 1 + 1, 0, none⟩) 1 1, .slice none 0 0] 25)).cell? p = some v := fun h => cell_old (by rw [hA]; exact cell_old h _) _
  have k : ∀ {i v}, #[Value.string ⟨#[97]⟩, .slice none 0 0, .slice none 0 0][i]? = some v → (A.alloc (.cells #[.slice (some ⟨w.heap.size + 1 + 1, 0, none⟩) 1 1, .slice none 0 0] 25)).cell? ⟨w.heap.size + 1 + 1, i, none⟩ = some v := fun h => cell_old (cell_at hn h) _
  show Below w.heap.size w ((_ : World).alloc _) ∧ ((_ : World).alloc _).heap.size = _ ∧ _
  rw [show (apW w a b c d) = A.alloc (.cells #[.slice (some ⟨w.heap.size + 1 + 1, 0, none⟩) 1 1, .slice none 0 0] 25) by rw [hA]]
  refine ⟨by rw [← hA]; exact b_alloc hB _, by rw [← hA, World.size_alloc, hzA], old (box2_a _ _ _ _ _ rfl), old (box2_a _ _ _ _ _ rfl), old (box2_b _ _ _ _ _ rfl), old (box2_b _ _ _ _ _ rfl), cell_at hm rfl, cell_at hm rfl, ?_⟩
  refine ⟨_, _, rfl, .inr ⟨_, 0, 1, rfl, Nat.le_refl _, by decide, by rw [World.size_alloc, hzA]; omega, fun i y hy => ?_⟩, fun y hy => ?_, fun y hy => ?_, .inl ⟨rfl, rfl⟩, fun y hy => by cases hy⟩
  · match i, hy with
    | 0, hy =>
      obtain rfl : fK = y := by simpa using hy
      exact ⟨k rfl, k rfl, k rfl⟩
    | i + 1, hy => simp at hy
  · obtain rfl : y = fK := by simpa using hy
    exact ⟨.inl ⟨none, 0, rfl, rfl, by decide, fun _ => rfl⟩, .inl ⟨none, 0, rfl, rfl, by decide, fun _ => rfl⟩⟩
  · obtain rfl : y = fK := by simpa using hy
    exact ⟨by decide, fun f hf => by cases hf⟩
theorem seG_eq {W : World} {b b' : Nat} {v u v' u' : Value} {N : List Nd} {T : List Te} (h : SeG W b v u N T) (h' : SeG W b' v' u' N T) : Calls Tryz.prog 9 #[.agg #[v, u], .agg #[v', u']] W fun e w' => e = .returned (.bool true) ∧ Below W.heap.size W w' := by
  obtain ⟨M, h1, g1⟩ := seG_isG h
  obtain ⟨M', h2, g2⟩ := seG_isG h'
  exact seG_same g1 g2 (h1.trans h2.symm) (by rw [h1]; obtain ⟨_, _, _, _, hg⟩ := h; exact hg)
theorem seG_in {W : World} {b : Nat} {v u vg : Value} {N : List Nd} {T : List Te} (h : SeG W b v u (cN N) T) (hg : IsG W vg N T) : Calls Tryz.prog 9 #[.agg #[v, u], vg] W fun e w' => e = .returned (.bool true) ∧ Below W.heap.size W w' := by
  obtain ⟨M, h1, g1⟩ := seG_isG h
  exact seG_same g1 hg h1 (by rw [h1]; obtain ⟨_, _, _, _, hg⟩ := h; exact hg)
theorem box_on {W W' : World} {g : Nat} {cs : Array Value} (h : W.heap[g]? = some (.cells cs 29 (0, 0))) (hB : Below W.heap.size W W') : W'.heap[g]? = some (.cells cs 29 (0, 0)) := (hB.block _ (Array.getElem?_eq_some_iff.1 h).1).trans h
theorem box_fr {W W' : World} {base g : Nat} {cs : Array Value} (h : W.heap[g]? = some (.cells cs 29 (0, 0))) (hf : Fr base W W') : W'.heap[g]? = some (.cells cs 29 (0, 0)) := (hf.2 29 (by decide) (by decide) (by decide)).2 _ _ h
theorem SeA.on {w w' : World} {base p : Nat} {N : List Nd} {T : List Te} (h : SeA w base p N T) (hB : Below w.heap.size w w') : SeA w' base p N T := let ⟨s, ⟨l, h1⟩, h2⟩ := h; ⟨s, ⟨l, h1.on hB⟩, h2⟩
end Go.Proofs.YtifhigajonafdaaGreat
