/-
  The walk of SessionLate.
-/
import Derived.Test.YtikjmingkadjcaaGreatDoorM43
import Derived.Test.YtikjmingkadjcaaGreatDoorM44
import Derived.Test.YtikjmingkadjcaaGreatDoorM45
import Derived.Test.YtikjmingkadjcaaGreatDoorM46
import Derived.Test.YtikjmingkadjcaaGreatDoorM03
namespace Go.Proofs.YtikjmingkadjcaaGreatDoor
open Go.RowKit
set_option linter.unusedVariables false
set_option linter.unusedSimpArgs false

theorem Hnd.on {w w' : World} (h : Hnd w) (hB : Below w.heap.size w w') : Hnd w' := (hB.cell (p := ⟨0, 0, none⟩) (cell_lt h)).trans h
theorem Hnd.lo {w w' : World} {B : Nat} (h : Hnd w) (hB : Below B w w') (h0 : 0 < B) : Hnd w' := (hB.cell (p := ⟨0, 0, none⟩) h0).trans h
theorem isSc_slD {w : World} {v : Value} {L : List Kd} {B : List Bd} (h : IsSc w v L B) : ∃ a n c b m d, v = .agg #[.slice a n c, .slice b m d] := by
  obtain ⟨vk, vb, rfl, hK, _, _, hb, _⟩ := h
  obtain ⟨a, c, rfl, _⟩ := hK.sln
  obtain ⟨b, d, rfl, _⟩ := hb.sln
  exact ⟨_, _, _, _, _, _, rfl⟩
def nwS (L : List Kd) (B : List Bd) (N : List Nd) (T : List Te) : Bs := ⟨L, B, cN N, T, fun _ => none, 0, 0, 0, 0⟩
theorem nwS_ok {L : List Kd} {B : List Bd} {N : List Nd} {T : List Te} (h : cfE L B N T = 0) (hz : SzK L) (hzb : SzB B) : BsOk (nwS L B N T) :=
  ⟨(by show cfE L B (cN N) T = 0; rw [cfE_c]; exact h), hz, hzb, fun i x hx => (by cases hx), Nat.zero_le _, Nat.zero_le _, Nat.zero_le _, fun i hi => absurd rfl hi⟩
def x00 : Ss := ⟨[], [], [], [], [], []⟩
def x11 (o : Opx) : Ss := ssDo x00 o
section
variable (vo vf : Value)
def lS0 : Bs := nwS [kdA vo vf] [bdP (-1)] [] []
def lS2 : Bs := openS (openS (lS0 vo vf))
def lS4 (o : Opx) : Bs := doS (doS (lS2 vo vf) 1 x00 o) 2 x00 o
theorem lF2_1 : (lS2 vo vf).F 1 = some x00 := by simp [lS2, lS0, nwS, openS, upd, x00, cN]
theorem lF2_2 : (lS2 vo vf).F 2 = some x00 := by simp [lS2, lS0, nwS, openS, upd, x00, cN]
theorem lF3_2 (o : Opx) : (doS (lS2 vo vf) 1 x00 o).F 2 = some x00 := by
  have := lF2_2 vo vf
  simp only [doS, upd]
  rw [if_neg (by decide)]
  exact this
theorem lF4_1 (o : Opx) : (lS4 vo vf o).F 1 = some (x11 o) := by simp [lS4, doS, upd, x11]
theorem lF4_2 (o : Opx) : (lS4 vo vf o).F 2 = some (x11 o) := by simp [lS4, doS, upd, x11]
end
theorem cm4 {id : Int} (h1 : 1 ≤ id) (h2 : id ≤ 1000) (vo vf rv : Value) : cmE (lS4 vo vf (lO id rv)) (x11 (lO id rv)) = 0 := by
  unfold cmE
  have hl : lateB (x11 (lO id rv)) = false := rfl
  rw [hl, if_neg (by decide)]
  have he : opS.err [(lO id rv).c] [] [] = 0 := by
    unfold OpS.err
    have : opS.e (lO id rv).c [] [] = 0 := opE_l h1 h2 rv
    rw [if_pos this]
    rfl
  have hr : opS.res [(lO id rv).c] [] [] = ([(lN id rv).c], []) := by
    unfold OpS.res
    have : opS.e (lO id rv).c [] [] = 0 := opE_l h1 h2 rv
    rw [if_pos this]
    rfl
  show wE (lS4 vo vf (lO id rv)) [(lO id rv).c] = 0
  unfold wE
  show (if opS.err [(lO id rv).c] [] [] = 0 then (if confB [kdA vo vf] [bdP (-1)] (opS.res [(lO id rv).c] [] []).1 (opS.res [(lO id rv).c] [] []).2 = true then 0 else 9) else _) = 0
  rw [if_pos he, hr, if_pos (conf_l h1 h2 vo vf rv)]
theorem cm5 {id : Int} {i j : Int} (vo vf rv : Value) {L : List Int} (hL : ∀ y, y ∈ L ↔ y ∈ touA (x11 (lO id rv)).gT (x11 (lO id rv)).O) (hij : j ≠ i) (hj : (lS4 vo vf (lO id rv)).F j = some (x11 (lO id rv))) :
    (cmS (lS4 vo vf (lO id rv)) i (x11 (lO id rv)) L).F j = some ((x11 (lO id rv)).tk L) ∧ cmE (cmS (lS4 vo vf (lO id rv)) i (x11 (lO id rv)) L) ((x11 (lO id rv)).tk L) = 10 := by
  constructor
  · show (dropI (lS4 vo vf (lO id rv)).F i j).map (fun x => x.tk L) = _
    unfold dropI
    rw [if_neg hij, hj]
    rfl
  · unfold cmE
    have hid : id ∈ L := (hL id).2 (by show id ∈ [id]; simp)
    have : lateB ((x11 (lO id rv)).tk L) = true := by
      show ([id].any fun y => decide (y ∈ [] ++ L)) = true
      simp [hid]
    rw [if_pos this]
theorem open1 {W : World} {base p : Nat} {vo vf : Value} (hok : BsOk (lS0 vo vf)) (hb : Be W base p (lS0 vo vf)) (hle : base ≤ W.heap.size) : Calls Tryz.prog 6 #[.pointer (some ⟨p, 0, none⟩)] W fun e w' => e = .returned (.tuple #[.int .i64 1, .nilIface]) ∧ Be w' base p (openS (lS0 vo vf)) ∧ Fr base W w' :=
  (sopen_any hb hok (by show (0 : Nat) < 4; omega) (by show (0 : Nat) < 1000; omega) hle).mono fun e w' h => ⟨h.1, h.2⟩
theorem open2 {W : World} {base p : Nat} {vo vf : Value} (hok : BsOk (lS0 vo vf)) (hb : Be W base p (openS (lS0 vo vf))) (hle : base ≤ W.heap.size) : Calls Tryz.prog 6 #[.pointer (some ⟨p, 0, none⟩)] W fun e w' => e = .returned (.tuple #[.int .i64 2, .nilIface]) ∧ Be w' base p (lS2 vo vf) ∧ Fr base W w' :=
  (sopen_any hb (openS_ok hok (by show (0 : Nat) < 1000; omega)) (by show (1 : Nat) < 4; omega) (by show (1 : Nat) < 1000; omega) hle).mono fun e w' h => ⟨h.1, h.2⟩
theorem lS2_ok {vo vf : Value} (hok : BsOk (lS0 vo vf)) : BsOk (lS2 vo vf) := openS_ok (openS_ok hok (by show (0 : Nat) < 1000; omega)) (by show (1 : Nat) < 1000; omega)
theorem lO_sz (id : Int) (rv : Value) : OpSz (lO id rv) := by
  refine ⟨⟨by show (1 : Nat) ≤ maxLen; decide, fun p hp => ?_, by show (1 : Nat) ≤ maxLen; decide⟩, ⟨by show (0 : Nat) ≤ maxLen; decide, by show (0 : Nat) ≤ maxLen; decide⟩, by show (0 : Nat) ≤ maxLen; decide⟩
  have : p = prK 1 := by simpa [lO, lN] using hp
  subst this
  exact ⟨by show (1 : Nat) ≤ maxLen; decide, by show (0 : Nat) ≤ maxLen; decide⟩
abbrev lRv (W : World) : Value := .slice (some ⟨W.heap.size + 1, 0, none⟩) 1 1
abbrev lW6 (W : World) (id : Int) : World := ((W.alloc (.cells #[.int .i64 1, .int .i64 1, .string ⟨#[]⟩] 48)).alloc (.cells #[.string ⟨#[107]⟩, .int .i64 1, .int .i64 1, .string ⟨#[]⟩] 50)).alloc (.cells #[.int .i64 1, .int .i64 id, .string ⟨#[97]⟩, lRv W, .string ⟨#[]⟩, .int .i64 0, .int .i64 0, .string ⟨#[]⟩, .string ⟨#[]⟩, .int .i64 0, .int .i64 0] 54)
theorem lW6_all (W : World) (id : Int) : Below W.heap.size W (lW6 W id) ∧ OwnRc (lW6 W id) W.heap.size (lRv W) [prK 1] ∧ (lW6 W id).heap[W.heap.size + 2]? = some (.cells #[.int .i64 1, .int .i64 id, .string ⟨#[97]⟩, lRv W, .string ⟨#[]⟩, .int .i64 0, .int .i64 0, .string ⟨#[]⟩, .string ⟨#[]⟩, .int .i64 0, .int .i64 0] 54 (0, 0)) ∧ (lW6 W id).heap.size = W.heap.size + 3 := by
  have hb : Below W.heap.size W (lW6 W id) := b_alloc (b_alloc (b_alloc (Below.refl _ _) _) _) _
  have h1 : (lW6 W id).heap[W.heap.size + 1]? = some (.cells #[.string ⟨#[107]⟩, .int .i64 1, .int .i64 1, .string ⟨#[]⟩] 50 (0, 0)) := by
    have := heap_alloc_new (W.alloc (.cells #[.int .i64 1, .int .i64 1, .string ⟨#[]⟩] 48)) (.cells #[.string ⟨#[107]⟩, .int .i64 1, .int .i64 1, .string ⟨#[]⟩] 50)
    rw [World.size_alloc] at this
    exact (Below.heap_alloc _ _ _ (by simp)).trans this
  have h2 : (lW6 W id).heap[W.heap.size + 2]? = some (.cells #[.int .i64 1, .int .i64 id, .string ⟨#[97]⟩, lRv W, .string ⟨#[]⟩, .int .i64 0, .int .i64 0, .string ⟨#[]⟩, .string ⟨#[]⟩, .int .i64 0, .int .i64 0] 54 (0, 0)) := by
    have := heap_alloc_new ((W.alloc (.cells #[.int .i64 1, .int .i64 1, .string ⟨#[]⟩] 48)).alloc (.cells #[.string ⟨#[107]⟩, .int .i64 1, .int .i64 1, .string ⟨#[]⟩] 50)) (.cells #[.int .i64 1, .int .i64 id, .string ⟨#[97]⟩, lRv W, .string ⟨#[]⟩, .int .i64 0, .int .i64 0, .string ⟨#[]⟩, .string ⟨#[]⟩, .int .i64 0, .int .i64 0] 54)
    rw [World.size_alloc, World.size_alloc] at this
    exact this
  exact ⟨hb, ⟨rfl, .inr ⟨W.heap.size + 1, 1, _, rfl, by omega, h1, Nat.le_refl _, by decide, rfl, rfl⟩⟩, h2, by simp⟩
theorem lDo1 {W6 : World} {base p : Nat} {l : Bl} {vo vf rv : Value} {id : Int} (h1 : 1 ≤ id) (h2 : id ≤ 1000) (hok : BsOk (lS0 vo vf)) (hl : BeL W6 base p l (lS2 vo vf)) (hb : base ≤ W6.heap.size) (hR : IsR W6 rv [prK 1]) :
    Calls Tryz.prog 7 #[.pointer (some ⟨p, 0, none⟩), .int .i64 1, (lO id rv).one] W6 fun e w' => e = .returned .nilIface ∧ (Be w' base p (doS (lS2 vo vf) 1 x00 (lO id rv)) ∧ Fr base W6 w') ∧ Bx W6.heap.size (l.q 1 :: (l.v 1).ownBlock.toList) W6 w' :=
  sdo_in hl (lS2_ok hok) (lF2_1 vo vf) (by show (0 : Nat) < 40; omega) hR (lO_sz id rv) (by show (1 : Nat) ≤ 2932031007402; omega) (opE_l h1 h2 rv) hb
theorem lDo2 {W7 : World} {base p : Nat} {vo vf rv : Value} {id : Int} (h1 : 1 ≤ id) (h2 : id ≤ 1000) (hok : BsOk (lS0 vo vf)) (hbe : Be W7 base p (doS (lS2 vo vf) 1 x00 (lO id rv))) (hb : base ≤ W7.heap.size) (hR : IsR W7 rv [prK 1]) :
    Calls Tryz.prog 7 #[.pointer (some ⟨p, 0, none⟩), .int .i64 2, (lO id rv).one] W7 fun e w' => e = .returned .nilIface ∧ Be w' base p (lS4 vo vf (lO id rv)) ∧ Fr base W7 w' :=
  sdo_yes hbe (doS_ok (lS2_ok hok) (lF2_1 vo vf) (by show (0 : Nat) < 40; omega) (lO_sz id rv) (opE_l h1 h2 rv)) (lF3_2 vo vf _) (by show (0 : Nat) < 40; omega) hR (lO_sz id rv) (by show (1 : Nat) ≤ 2932031007402; omega) (opE_l h1 h2 rv) hb
theorem lS4_ok {vo vf : Value} {id : Int} {rv : Value} (h1 : 1 ≤ id) (h2 : id ≤ 1000) (hok : BsOk (lS0 vo vf)) : BsOk (lS4 vo vf (lO id rv)) :=
  doS_ok (doS_ok (lS2_ok hok) (lF2_1 vo vf) (by show (0 : Nat) < 40; omega) (lO_sz id rv) (opE_l h1 h2 rv)) (lF3_2 vo vf _) (by show (0 : Nat) < 40; omega) (lO_sz id rv) (opE_l h1 h2 rv)
def LcP (base p : Nat) (j : Int) (w : World) : Prop := ∃ s x, Be w base p s ∧ BsOk s ∧ s.F j = some x ∧ cmE s x = 10 ∧ s.age = 1 ∧ s.cnt = 1
theorem lCm1 {W : World} {base p : Nat} {vo vf rv : Value} {id i j : Int} (h1 : 1 ≤ id) (h2 : id ≤ 1000) (hok : BsOk (lS0 vo vf)) (hij : j ≠ i) (hi : (lS4 vo vf (lO id rv)).F i = some (x11 (lO id rv))) (hj : (lS4 vo vf (lO id rv)).F j = some (x11 (lO id rv))) (hbe : Be W base p (lS4 vo vf (lO id rv))) (hb : base ≤ W.heap.size) :
    Calls Tryz.prog 8 #[.pointer (some ⟨p, 0, none⟩), .int .i64 i] W fun e w' => e = .returned .nilIface ∧ Fr base W w' ∧ LcP base p j w' := by
  have hok4 := lS4_ok (rv := rv) h1 h2 hok
  have hc := cm4 h1 h2 vo vf rv
  refine (scommit_any hbe hok4 hi (by show (0 : Nat) < 1000; omega) hb).mono fun e w' hP => ?_
  obtain ⟨rfl, hf, _, h⟩ := hP
  obtain ⟨L, h64, hL, hbe'⟩ := h hc
  obtain ⟨hFj, hE⟩ := cm5 vo vf rv hL hij hj
  have hw : wE (lS4 vo vf (lO id rv)) (x11 (lO id rv)).O = 0 := by
    unfold cmE at hc
    rw [show lateB (x11 (lO id rv)) = false from rfl, if_neg (by decide)] at hc
    exact hc
  exact ⟨by rw [hc]; rfl, hf, _, _, hbe', cmS_ok hok4 hi (by show (0 : Nat) < 1000; omega) hw h64, hFj, hE, rfl, rfl⟩
theorem lCm2 {W : World} {base p : Nat} {j : Int} (h : LcP base p j W) (hb : base ≤ W.heap.size) :
    Calls Tryz.prog 8 #[.pointer (some ⟨p, 0, none⟩), .int .i64 j] W fun e w' => e = .returned (.iface 79 (.int .i64 10)) ∧ Fr base W w' ∧ ∃ s, Be w' base p s ∧ BsOk s ∧ s.age = 1 ∧ s.cnt = 1 := by
  obtain ⟨s, x, hbe, hok, hF, hE, ha, hc⟩ := h
  refine (scommit_any hbe hok hF (by omega) hb).mono fun e w' hP => ?_
  obtain ⟨rfl, hf, h, _⟩ := hP
  exact ⟨by rw [hE]; rfl, hf, s, h (by rw [hE]; decide), hok, ha, hc⟩
def LeP (base p : Nat) (w : World) : Prop := ∃ s, Be w base p s ∧ BsOk s ∧ s.age = 1 ∧ s.cnt = 1
theorem LeP.on {base p : Nat} {w w' : World} (h : LeP base p w) (hB : Below w.heap.size w w') : LeP base p w' := let ⟨s, h1, h2⟩ := h; ⟨s, h1.on hB, h2⟩
theorem lAge {base p : Nat} {w : World} (h : LeP base p w) : Calls Tryz.prog 17 #[.pointer (some ⟨p, 0, none⟩)] w fun e w' => e = .returned (.int .i64 1) ∧ w' = w := by
  obtain ⟨s, h1, _, h2, _⟩ := h
  refine (sage_any h1).mono fun e w' hP => ?_
  obtain ⟨rfl, rfl⟩ := hP
  exact ⟨by rw [h2]; rfl, rfl⟩
theorem lIds {base p : Nat} {w : World} (h : LeP base p w) : Calls Tryz.prog 18 #[.pointer (some ⟨p, 0, none⟩)] w fun e w' => ∃ a c, e = .returned (.slice a 1 c) ∧ Below w.heap.size w w' := by
  obtain ⟨s, h1, h2, _, h3⟩ := h
  refine (sids_any h1 h2).mono fun e w' hP => ?_
  obtain ⟨a, c, rfl, hB⟩ := hP
  exact ⟨a, c, by rw [h3], hB⟩
end Go.Proofs.YtikjmingkadjcaaGreatDoor

/-
  The walk of SessionLate.
-/
namespace Go.Proofs.YtikjmingkadjcaaGreatDoor
open Go.RowKit
set_option linter.unusedVariables false
set_option linter.unusedSimpArgs false

theorem isG0 (W : World) : IsG W (.agg #[.slice none 0 0, .slice none 0 0]) [] [] :=
  ⟨_, _, rfl, ⟨none, 0, rfl, Nat.le_refl _, .inl rfl⟩, ⟨none, 0, rfl, Nat.le_refl _, .inl rfl⟩, fun n hn => (by cases hn), fun n hn => (by cases hn), Nat.zero_le _, Nat.zero_le _⟩
theorem new_lS0 {W : World} {vs vo vf : Value} (h : IsSc W vs [kdA vo vf] [bdP (-1)]) : BsOk (lS0 vo vf) ∧ Calls Tryz.prog 5 #[vs, .agg #[.slice none 0 0, .slice none 0 0]] W fun e w' => ∃ p, e = .returned (.tuple #[.pointer (some ⟨p, 0, none⟩), .nilIface]) ∧ Be w' W.heap.size p (lS0 vo vf) ∧ Below W.heap.size W w' :=
  ⟨nwS_ok (cf_empty vo vf) (let ⟨_, _, _, _, _, h, _⟩ := h; h) (let ⟨_, _, _, _, _, _, _, h⟩ := h; h), snew_yes h (isG0 W) (cf_empty vo vf)⟩

set_option maxHeartbeats 4000000 in
set_option maxRecDepth 100000 in
theorem slate_out (id : Int) (first : Bool) (w : World) (hr : id < 1 ∨ 1000 < id) :
    Calls Tryz.prog 4 #[.int .i64 id, .bool first] w fun e w' => e = .returned (.bool true) ∧ Below w.heap.size w w' := by
  have cS := simple_sc (-1) w
  have HN : Hid (∀ W vs vo vf, IsSc W vs [kdA vo vf] [bdP (-1)] → Calls Tryz.prog 5 #[vs, .agg #[.slice none 0 0, .slice none 0 0]] W fun e w' => ∃ p, e = .returned (.tuple #[.pointer (some ⟨p, 0, none⟩), .nilIface]) ∧ Be w' W.heap.size p (lS0 vo vf) ∧ Below W.heap.size W w') := fun W vs vo vf h => (new_lS0 h).2
  rcases hr with hr | hr
  all_goals
    try (have hr1 : ¬ id < 1 := by omega)
    go_enter Tryz.func4, Tryz.ntmps4
    go_wp2_with (first | (go_at_call 15; refine cS.mono ?_; rintro e W1 ⟨vs, vo, vf, rfl, hsc, hB1⟩; obtain ⟨sa, sn, sc, sb, sm, sd, hvs⟩ := isSc_slD hsc; subst hvs; have cN := HN.out W1 _ vo vf hsc; have H1 := Lib.hid hB1; clear hsc hB1) | (go_at_call 5; refine cN.mono ?_; rintro e W2 ⟨p, rfl, hbe, hB2⟩; have H2 := Lib.hid hB2; clear hbe hB2))
    go_ret
    exact ⟨rfl, on1K H1.out H2.out (Nat.le_refl _)⟩

set_option maxHeartbeats 8000000 in
set_option maxRecDepth 100000 in
theorem slate_in (id : Int) (first : Bool) (w : World) (h1 : 1 ≤ id) (h2 : id ≤ 1000) (hg : Hnd w) :
    Calls Tryz.prog 4 #[.int .i64 id, .bool first] w fun e w' => e = .returned (.bool true) ∧ Below w.heap.size w w' := by
  have hw0 : 0 < w.heap.size := cell_lt hg
  have cS := simple_sc (-1) w
  have HN : Hid (∀ W vs vo vf, IsSc W vs [kdA vo vf] [bdP (-1)] → BsOk (lS0 vo vf) ∧ Calls Tryz.prog 5 #[vs, .agg #[.slice none 0 0, .slice none 0 0]] W fun e w' => ∃ p, e = .returned (.tuple #[.pointer (some ⟨p, 0, none⟩), .nilIface]) ∧ Be w' W.heap.size p (lS0 vo vf) ∧ Below W.heap.size W w') := fun W vs vo vf h => new_lS0 h
  have HG := Lib.hid (And.intro hg hw0)
  clear hg
  have hr1 : ¬ id < 1 := by omega
  have hr2 : ¬ 1000 < id := by omega
  go_enter Tryz.func4, Tryz.ntmps4
  go_wp2_with (first | (go_at_call 15; refine cS.mono ?_; rintro e W1 ⟨vs, vo, vf, rfl, hsc, hB1⟩; obtain ⟨sa, sn, sc, sb, sm, sd, hvs⟩ := isSc_slD hsc; subst hvs; obtain ⟨hok0, cN⟩ := HN.out W1 _ vo vf hsc; have H1 := Lib.hid (And.intro hB1 hok0); clear hsc hB1 hok0) | (go_at_call 5; refine cN.mono ?_; rintro e W2 ⟨p, rfl, hbe0, hB2⟩; have H2 := Lib.hid (And.intro hbe0 hB2); have HO1 : Hid (∀ W, Be W W1.heap.size p (lS0 vo vf) → W1.heap.size ≤ W.heap.size → Calls Tryz.prog 6 #[.pointer (some ⟨p, 0, none⟩)] W fun e w' => e = .returned (.tuple #[.int .i64 1, .nilIface]) ∧ Be w' W1.heap.size p (openS (lS0 vo vf)) ∧ Fr W1.heap.size W w') := (fun W hb hle => open1 H1.out.2 hb hle); have HO2 : Hid (∀ W, Be W W1.heap.size p (openS (lS0 vo vf)) → W1.heap.size ≤ W.heap.size → Calls Tryz.prog 6 #[.pointer (some ⟨p, 0, none⟩)] W fun e w' => e = .returned (.tuple #[.int .i64 2, .nilIface]) ∧ Be w' W1.heap.size p (lS2 vo vf) ∧ Fr W1.heap.size W w') := (fun W hb hle => open2 H1.out.2 hb hle); clear hbe0 hB2 cN) | (go_at_call 6; refine (HO2.out _ H3.out.1 (Nat.le_trans H2.out.2.size H3.out.2.1.size)).mono ?_; rintro e W4 ⟨rfl, hbe2, hf2⟩; refine Hid.out ?_; have H4 := Lib.hid (And.intro hbe2 hf2); clear hbe2 hf2) | (go_at_call 6; refine (HO1.out _ H2.out.1 H2.out.2.size).mono ?_; rintro e W3 ⟨rfl, hbe1, hf1⟩; have H3 := Lib.hid (And.intro hbe1 hf1); clear hbe1 hf1))
  refine Lib.hid ?_
  have cn := number_any 1 W4
  go_upto_region 7 with (go_at_call 16; refine cn.mono ?_; rintro e W5 ⟨rfl, rfl⟩)
  clear cn
  obtain ⟨l, hl4⟩ := H4.out.1
  obtain ⟨W6, hW6⟩ : ∃ W6, W6 = lW6 W4 id := ⟨_, rfl⟩
  have h6 := lW6_all W4 id
  rw [← hW6] at h6
  unfold lW6 lRv at hW6
  rw [← hW6]
  obtain ⟨hB6, hrc6, n6, hz6⟩ := h6
  unfold lRv at hrc6 n6
  have hle4 : W1.heap.size ≤ W4.heap.size := Nat.le_trans (Nat.le_trans H2.out.2.size H3.out.2.1.size) H4.out.2.1.size
  have hle6 : W1.heap.size ≤ W6.heap.size := by omega
  have HD1 := lDo1 (id := id) h1 h2 H1.out.2 (hl4.on hB6) hle6 hrc6.isR
  have c0 : W6.cell? ⟨W4.heap.size + 2, 0, none⟩ = some (.int .i64 1) := cell_at n6 rfl
  have c1 : W6.cell? ⟨W4.heap.size + 2, 1, none⟩ = some (.int .i64 id) := cell_at n6 rfl
  have c2 : W6.cell? ⟨W4.heap.size + 2, 2, none⟩ = some (.string ⟨#[97]⟩) := cell_at n6 rfl
  have c3 : W6.cell? ⟨W4.heap.size + 2, 3, none⟩ = some (.slice (some ⟨W4.heap.size + 1, 0, none⟩) 1 1) := cell_at n6 rfl
  have c4 : W6.cell? ⟨W4.heap.size + 2, 4, none⟩ = some (.string ⟨#[]⟩) := cell_at n6 rfl
  have c5 : W6.cell? ⟨W4.heap.size + 2, 5, none⟩ = some (.int .i64 0) := cell_at n6 rfl
  have c6 : W6.cell? ⟨W4.heap.size + 2, 6, none⟩ = some (.int .i64 0) := cell_at n6 rfl
  have c7 : W6.cell? ⟨W4.heap.size + 2, 7, none⟩ = some (.string ⟨#[]⟩) := cell_at n6 rfl
  have c8 : W6.cell? ⟨W4.heap.size + 2, 8, none⟩ = some (.string ⟨#[]⟩) := cell_at n6 rfl
  have c9 : W6.cell? ⟨W4.heap.size + 2, 9, none⟩ = some (.int .i64 0) := cell_at n6 rfl
  have c10 : W6.cell? ⟨W4.heap.size + 2, 10, none⟩ = some (.int .i64 0) := cell_at n6 rfl
  have HX7 : Hid (∀ W7, Fr W1.heap.size W6 W7 → Bx W6.heap.size (l.q 1 :: (l.v 1).ownBlock.toList) W6 W7 → W7.heap[W4.heap.size + 2]? = some (.cells #[.int .i64 1, .int .i64 id, .string ⟨#[97]⟩, .slice (some ⟨W4.heap.size + 1, 0, none⟩) 1 1, .string ⟨#[]⟩, .int .i64 0, .int .i64 0, .string ⟨#[]⟩, .string ⟨#[]⟩, .int .i64 0, .int .i64 0] 54 (0, 0)) ∧ IsR W7 (.slice (some ⟨W4.heap.size + 1, 0, none⟩) 1 1) [prK 1]) := fun W7 hf hx => by
    obtain ⟨l1, _, l3, _⟩ := (hl4.ss 1 _ (lF2_1 vo vf)).1.lts
    refine ⟨(hx.block _ (by omega) (fun hm => ?_)).trans n6, (hrc6.kt (hf.2 _ (by decide) (by decide) (by decide))).isR⟩
    rcases List.mem_cons.1 hm with e | hm
    · omega
    · have := (l3 _ (by simpa using hm)).2.1
      omega
  have H6 := Lib.hid (And.intro hB6 (And.intro hle4 hle6))
  clear hl4 hB6 hrc6 n6 hle4 hle6 hW6 hz6
  have HD1' : Calls Tryz.prog 7 #[.pointer (some ⟨p, 0, none⟩), .int .i64 1, .agg #[.int .i64 1, .int .i64 id, .string ⟨#[97]⟩, .slice (some ⟨W4.heap.size + 1, 0, none⟩) 1 1, .string ⟨#[]⟩, .int .i64 0, .int .i64 0, .string ⟨#[]⟩, .string ⟨#[]⟩, .int .i64 0, .int .i64 0]] W6 fun e w' => e = .returned .nilIface ∧ (Be w' W1.heap.size p (doS (lS2 vo vf) 1 x00 (lO id (.slice (some ⟨W4.heap.size + 1, 0, none⟩) 1 1))) ∧ Fr W1.heap.size W6 w') ∧ Bx W6.heap.size (l.q 1 :: (l.v 1).ownBlock.toList) W6 w' := HD1
  have HD2 : Hid (∀ W7, Be W7 W1.heap.size p (doS (lS2 vo vf) 1 x00 (lO id (.slice (some ⟨W4.heap.size + 1, 0, none⟩) 1 1))) → W1.heap.size ≤ W7.heap.size → IsR W7 (.slice (some ⟨W4.heap.size + 1, 0, none⟩) 1 1) [prK 1] → Calls Tryz.prog 7 #[.pointer (some ⟨p, 0, none⟩), .int .i64 2, .agg #[.int .i64 1, .int .i64 id, .string ⟨#[97]⟩, .slice (some ⟨W4.heap.size + 1, 0, none⟩) 1 1, .string ⟨#[]⟩, .int .i64 0, .int .i64 0, .string ⟨#[]⟩, .string ⟨#[]⟩, .int .i64 0, .int .i64 0]] W7 fun e w' => e = .returned .nilIface ∧ Be w' W1.heap.size p (lS4 vo vf (lO id (.slice (some ⟨W4.heap.size + 1, 0, none⟩) 1 1))) ∧ Fr W1.heap.size W7 w') := fun W7 hbe hle hR => lDo2 h1 h2 H1.out.2 hbe hle hR
  clear HD1
  have HC1 : Hid (∀ W i j, j ≠ i → (i = 1 ∧ j = 2 ∨ i = 2 ∧ j = 1) → Be W W1.heap.size p (lS4 vo vf (lO id (.slice (some ⟨W4.heap.size + 1, 0, none⟩) 1 1))) → W1.heap.size ≤ W.heap.size → Calls Tryz.prog 8 #[.pointer (some ⟨p, 0, none⟩), .int .i64 i] W fun e w' => e = .returned .nilIface ∧ Fr W1.heap.size W w' ∧ LcP W1.heap.size p j w') := fun W i j hij hc hbe hle => by
    rcases hc with ⟨rfl, rfl⟩ | ⟨rfl, rfl⟩
    · exact lCm1 h1 h2 H1.out.2 hij (lF4_1 _ _ _) (lF4_2 _ _ _) hbe hle
    · exact lCm1 h1 h2 H1.out.2 hij (lF4_2 _ _ _) (lF4_1 _ _ _) hbe hle
  have HE : Hid (∀ W, Below w.heap.size w W → Calls Tryz.prog 13 #[.iface 79 (.int .i64 10), .int .i64 10] W fun e w' => e = .returned (.bool true) ∧ Below W.heap.size W w') := fun W hB => error_any 10 W (HG.out.1.lo hB HG.out.2)
  have hw1 : w.heap.size ≤ W1.heap.size := H1.out.1.size
  have HZ : ∀ W6 W7 W8 W9 W10, Below W4.heap.size W4 W6 → Fr W1.heap.size W6 W7 → Fr W1.heap.size W7 W8 → Fr W1.heap.size W8 W9 → Fr W1.heap.size W9 W10 → Below w.heap.size w W10 := fun W6 W7 W8 W9 W10 k6 k7 k8 k9 k10 =>
    ((((((((H1.out.1.trans (H2.out.2.mono hw1)).trans (H3.out.2.1.mono hw1)).trans (H4.out.2.1.mono hw1)).trans (k6.mono (Nat.le_trans hw1 H6.out.2.1))).trans (k7.1.mono hw1)).trans (k8.1.mono hw1)).trans (k9.1.mono hw1)).trans (k10.1.mono hw1))
  have HZ2 : ∀ W6 W7 W8 W9 W10 W11 W13, Below W4.heap.size W4 W6 → Fr W1.heap.size W6 W7 → Fr W1.heap.size W7 W8 → Fr W1.heap.size W8 W9 → Fr W1.heap.size W9 W10 → Below W10.heap.size W10 W11 → Below W11.heap.size W11 W13 → Below w.heap.size w W13 := fun W6 W7 W8 W9 W10 W11 W13 k6 k7 k8 k9 k10 k11 k13 =>
    on1K (on1K (HZ W6 W7 W8 W9 W10 k6 k7 k8 k9 k10) k11 (Nat.le_refl _)) k13 (Nat.le_refl _)
  replace HZ := Lib.hid HZ
  replace HZ2 := Lib.hid HZ2
  cases first
  · go_wp2_with (first | (go_at_call 7; refine (HD2.out _ H7.out.1 H7.out.2.1 hR7).mono ?_; rintro e W8 ⟨rfl, hbe8, hf8⟩; have hle8 := Nat.le_trans H7.out.2.1 hf8.1.size; have H8 := Lib.hid (And.intro hbe8 (And.intro hle8 hf8)); clear hbe8 hf8 hle8) | (go_at_call 7; refine HD1'.mono ?_; rintro e W7 ⟨rfl, ⟨hbe7, hf7⟩, hx7⟩; obtain ⟨n7, hR7⟩ := HX7.out W7 hf7 hx7; have d0 := cell_at (i := 0) n7 rfl; have d1 := cell_at (i := 1) n7 rfl; have d2 := cell_at (i := 2) n7 rfl; have d3 := cell_at (i := 3) n7 rfl; have d4 := cell_at (i := 4) n7 rfl; have d5 := cell_at (i := 5) n7 rfl; have d6 := cell_at (i := 6) n7 rfl; have d7 := cell_at (i := 7) n7 rfl; have d8 := cell_at (i := 8) n7 rfl; have d9 := cell_at (i := 9) n7 rfl; have d10 := cell_at (i := 10) n7 rfl; have hle7 := Nat.le_trans H6.out.2.2 hf7.1.size; have H7 := Lib.hid (And.intro hbe7 (And.intro hle7 hf7)); clear n7 hbe7 hf7 hx7 hle7) | (go_at_call 8; refine (lCm2 H9.out.1 H9.out.2.1).mono ?_; rintro e W10 ⟨rfl, hf10, hs10⟩; have hl10 : LeP W1.heap.size p W10 := hs10; have H10 := Lib.hid (And.intro hl10 hf10); clear hs10 hl10 hf10) | (go_at_call 8; refine (HC1.out _ 2 1 (by decide) (by decide) H8.out.1 H8.out.2.1).mono ?_; rintro e W9 ⟨rfl, hf9, hl9⟩; have hle9 := Nat.le_trans H8.out.2.1 hf9.1.size; have H9 := Lib.hid (And.intro hl9 (And.intro hle9 hf9)); clear hl9 hf9 hle9) | (go_at_call 13; refine (HE.out _ (HZ.out W6 W7 W8 W9 W10 H6.out.1 H7.out.2.2 H8.out.2.2 H9.out.2.2 H10.out.2)).mono ?_; rintro e W11 ⟨rfl, hB11⟩; have hl11 := H10.out.1.on hB11; have H11 := Lib.hid (And.intro hl11 hB11); clear hl11 hB11) | (go_at_call 17; refine (lAge H11.out.1).mono ?_; rintro e W12 ⟨rfl, rfl⟩) | (go_at_call 18; refine (lIds H11.out.1).mono ?_; rintro e W13 ⟨a13, c13, rfl, hB13⟩; have H13 := Lib.hid hB13; clear hB13))
    go_ret
    exact ⟨rfl, HZ2.out W6 W7 W8 W9 W10 W12 W13 H6.out.1 H7.out.2.2 H8.out.2.2 H9.out.2.2 H10.out.2 H11.out.2 H13.out⟩
  · go_wp2_with (first | (go_at_call 7; refine (HD2.out _ H7.out.1 H7.out.2.1 hR7).mono ?_; rintro e W8 ⟨rfl, hbe8, hf8⟩; have hle8 := Nat.le_trans H7.out.2.1 hf8.1.size; have H8 := Lib.hid (And.intro hbe8 (And.intro hle8 hf8)); clear hbe8 hf8 hle8) | (go_at_call 7; refine HD1'.mono ?_; rintro e W7 ⟨rfl, ⟨hbe7, hf7⟩, hx7⟩; obtain ⟨n7, hR7⟩ := HX7.out W7 hf7 hx7; have d0 := cell_at (i := 0) n7 rfl; have d1 := cell_at (i := 1) n7 rfl; have d2 := cell_at (i := 2) n7 rfl; have d3 := cell_at (i := 3) n7 rfl; have d4 := cell_at (i := 4) n7 rfl; have d5 := cell_at (i := 5) n7 rfl; have d6 := cell_at (i := 6) n7 rfl; have d7 := cell_at (i := 7) n7 rfl; have d8 := cell_at (i := 8) n7 rfl; have d9 := cell_at (i := 9) n7 rfl; have d10 := cell_at (i := 10) n7 rfl; have hle7 := Nat.le_trans H6.out.2.2 hf7.1.size; have H7 := Lib.hid (And.intro hbe7 (And.intro hle7 hf7)); clear n7 hbe7 hf7 hx7 hle7) | (go_at_call 8; refine (lCm2 H9.out.1 H9.out.2.1).mono ?_; rintro e W10 ⟨rfl, hf10, hs10⟩; have hl10 : LeP W1.heap.size p W10 := hs10; have H10 := Lib.hid (And.intro hl10 hf10); clear hs10 hl10 hf10) | (go_at_call 8; refine (HC1.out _ 1 2 (by decide) (by decide) H8.out.1 H8.out.2.1).mono ?_; rintro e W9 ⟨rfl, hf9, hl9⟩; have hle9 := Nat.le_trans H8.out.2.1 hf9.1.size; have H9 := Lib.hid (And.intro hl9 (And.intro hle9 hf9)); clear hl9 hf9 hle9) | (go_at_call 13; refine (HE.out _ (HZ.out W6 W7 W8 W9 W10 H6.out.1 H7.out.2.2 H8.out.2.2 H9.out.2.2 H10.out.2)).mono ?_; rintro e W11 ⟨rfl, hB11⟩; have hl11 := H10.out.1.on hB11; have H11 := Lib.hid (And.intro hl11 hB11); clear hl11 hB11) | (go_at_call 17; refine (lAge H11.out.1).mono ?_; rintro e W12 ⟨rfl, rfl⟩) | (go_at_call 18; refine (lIds H11.out.1).mono ?_; rintro e W13 ⟨a13, c13, rfl, hB13⟩; have H13 := Lib.hid hB13; clear hB13))
    go_ret
    exact ⟨rfl, HZ2.out W6 W7 W8 W9 W10 W12 W13 H6.out.1 H7.out.2.2 H8.out.2.2 H9.out.2.2 H10.out.2 H11.out.2 H13.out⟩
theorem slate_any (id : Int) (first : Bool) (w : World) (hg : Hnd w) : Calls Tryz.prog 4 #[.int .i64 id, .bool first] w fun e w' => e = .returned (.bool true) ∧ Below w.heap.size w w' := by
  by_cases h1 : 1 ≤ id
  · by_cases h2 : id ≤ 1000
    · exact slate_in id first w h1 h2 hg
    · exact slate_out id first w (.inr (by omega))
  · exact slate_out id first w (.inl (by omega))
end Go.Proofs.YtikjmingkadjcaaGreatDoor
