import Derived.Test.YtahamkajkkkjdaaGreatDoorM11
namespace Go.Proofs.YtahamkajkkkjdaaGreatDoor
open Go.RowKit
set_option linter.unusedVariables false
set_option linter.unusedSimpArgs false
theorem teE_name {o : Option Te} {t : Te} (h : ¬ nErr t.bd.data.toList = 0) : teE o t = nErr t.bd.data.toList := by unfold teE; rw [if_neg h]
theorem teE_id {o : Option Te} {t : Te} (h : nErr t.bd.data.toList = 0) (h2 : (idOk t.fr && idOk t.tt) = false) : teE o t = 1 := by unfold teE; rw [if_pos h, h2]; rfl
theorem teE_low {o : Option Te} {t : Te} (h : nErr t.bd.data.toList = 0) (h2 : (idOk t.fr && idOk t.tt) = true) (h3 : t.low o = true) : teE o t = 7 := by unfold teE; rw [if_pos h, if_pos h2, if_pos h3]
theorem teE_ok {o : Option Te} {t : Te} (h : nErr t.bd.data.toList = 0) (h2 : (idOk t.fr && idOk t.tt) = true) (h3 : t.low o = false) : teE o t = 0 := by unfold teE; rw [if_pos h, if_pos h2, h3]; rfl
set_option maxHeartbeats 4000000 in
set_option maxRecDepth 100000 in
theorem checkTie_bad (ao : Option Addr) (k c : Nat) (o : Option Te) (t : Te) (w : World) (z1 : t.bd.size ≤ maxLen) (h : ¬ nErr t.bd.data.toList = 0 ∨ (idOk t.fr && idOk t.tt) = false) :
    Calls Tryz.prog 108 #[.slice ao k c, t.one] w fun e w' => e = .returned (errV (teE o t)) ∧ Below w.heap.size w w' := by
  have hB : Below w.heap.size w (w.alloc (.cells #[.string t.bd, .int .i64 t.fr, .int .i64 t.tt] 46)) := b_alloc (Below.refl _ _) _
  have nm := fun w => name_any t.bd w z1
  by_cases h1 : nErr t.bd.data.toList = 0
  · have h2 : (idOk t.fr && idOk t.tt) = false := by
      rcases h with h | h
      · exact absurd h1 h
      · exact h
    have H3 : Hid (errV (teE o t) = .iface 76 (.int .i64 1)) := by
      show _ = _
      rw [teE_id h1 h2, errV_1]
    rw [h1, errV_0] at nm
    clear h h1
    obtain ⟨bd, fr, tt⟩ := t
    simp only at H3 nm hB h2 ⊢
    by_cases hf : idOk fr = true
    · have ht : idOk tt = false := by rw [hf, Bool.true_and] at h2; exact h2
      clear h2
      go_enter Tryz.func108, Tryz.ntmps108
      go_wp2_with (first | (go_at_call 25; refine (nm _).mono ?_; rintro e w' ⟨rfl, rfl⟩) | (go_at_call 140; refine (isId_any _ _).mono ?_; rintro e w' ⟨rfl, rfl⟩))
      go_ret
      exact ⟨ret_v H3.out.symm, hB⟩
    · have hf' : idOk fr = false := by simpa using hf
      clear h2 hf
      go_enter Tryz.func108, Tryz.ntmps108
      go_wp2_with (first | (go_at_call 25; refine (nm _).mono ?_; rintro e w' ⟨rfl, rfl⟩) | (go_at_call 140; refine (isId_any _ _).mono ?_; rintro e w' ⟨rfl, rfl⟩))
      go_ret
      exact ⟨ret_v H3.out.symm, hB⟩
  · have H3 : Hid (errV (teE o t) = .iface 76 (.int .i64 (nErr t.bd.data.toList))) := by
      show _ = _
      rw [teE_name h1, errV_ne h1]
    rw [errV_ne h1] at nm
    clear h h1
    obtain ⟨bd, fr, tt⟩ := t
    simp only at H3 nm hB ⊢
    go_enter Tryz.func108, Tryz.ntmps108
    go_wp2_with (first | (go_at_call 25; refine (nm _).mono ?_; rintro e w' ⟨rfl, rfl⟩))
    go_ret
    exact ⟨ret_v H3.out.symm, hB⟩
set_option maxHeartbeats 4000000 in
set_option maxRecDepth 100000 in
theorem checkTie_first (ao : Option Addr) (c : Nat) (t : Te) (w : World) (z1 : t.bd.size ≤ maxLen) :
    Calls Tryz.prog 108 #[.slice ao 0 c, t.one] w fun e w' => e = .returned (errV (teE none t)) ∧ Below w.heap.size w w' := by
  by_cases hh : ¬ nErr t.bd.data.toList = 0 ∨ (idOk t.fr && idOk t.tt) = false
  · exact checkTie_bad ao 0 c none t w z1 hh
  have hB : Below w.heap.size w (w.alloc (.cells #[.string t.bd, .int .i64 t.fr, .int .i64 t.tt] 46)) := b_alloc (Below.refl _ _) _
  have nm := fun w => name_any t.bd w z1
  have h1 : nErr t.bd.data.toList = 0 := Decidable.byContradiction fun h => hh (.inl h)
  have h2 : (idOk t.fr && idOk t.tt) = true := by
    cases h : (idOk t.fr && idOk t.tt)
    · exact absurd (.inr h) hh
    · rfl
  have H3 : Hid (errV (teE none t) = .nilIface) := by
    show _ = _
    rw [teE_ok h1 h2 rfl, errV_0]
  rw [h1, errV_0] at nm
  rw [Bool.and_eq_true] at h2
  obtain ⟨hf, ht⟩ := h2
  clear hh h1
  obtain ⟨bd, fr, tt⟩ := t
  simp only at H3 nm hB hf ht ⊢
  go_enter Tryz.func108, Tryz.ntmps108
  go_wp2_with (first | (go_at_call 25; refine (nm _).mono ?_; rintro e w' ⟨rfl, rfl⟩) | (go_at_call 140; refine (isId_any _ _).mono ?_; rintro e w' ⟨rfl, rfl⟩))
  go_quiet (fail)
  go_wp2
  go_ret
  exact ⟨ret_v H3.out.symm, b_drewN hB _⟩
def SixC (b o l : Nat) (q t : Te) (w : World) : Prop := (b < w.heap.size ∧ l < w.heap.size) ∧ (w.cell? ⟨b, o, none⟩ = some (.string q.bd) ∧ w.cell? ⟨b, o + 1, none⟩ = some (.int .i64 q.fr) ∧ w.cell? ⟨b, o + 2, none⟩ = some (.int .i64 q.tt)) ∧ (w.cell? ⟨l, 0, none⟩ = some (.string t.bd) ∧ w.cell? ⟨l, 1, none⟩ = some (.int .i64 t.fr) ∧ w.cell? ⟨l, 2, none⟩ = some (.int .i64 t.tt))
theorem SixC.on {b o l : Nat} {q t : Te} {w w' : World} (h : SixC b o l q t w) (hB : Below w.heap.size w w') : SixC b o l q t w' := by
  obtain ⟨⟨h1, h2⟩, ⟨a0, a1, a2⟩, ⟨b0, b1, b2⟩⟩ := h
  exact ⟨⟨Nat.lt_of_lt_of_le h1 hB.size, Nat.lt_of_lt_of_le h2 hB.size⟩, ⟨(hB.cell h1).trans a0, (hB.cell h1).trans a1, (hB.cell h1).trans a2⟩, ⟨(hB.cell h2).trans b0, (hB.cell h2).trans b1, (hB.cell h2).trans b2⟩⟩
set_option maxHeartbeats 1000000 in
set_option maxRecDepth 100000 in
theorem checkTie_at (b off m k c : Nat) (q t : Te) (w : World) (hb : b < w.heap.size) (hmk : k < m) (hc : (m : Int) - 1 = (k : Int)) (hk : m ≤ 121) (q0 : w.cell? ⟨b, off + k * 3, none⟩ = some (.string q.bd)) (q1 : w.cell? ⟨b, off + k * 3 + 1, none⟩ = some (.int .i64 q.fr)) (q2 : w.cell? ⟨b, off + k * 3 + 2, none⟩ = some (.int .i64 q.tt)) (z1 : t.bd.size ≤ maxLen) :
    Calls Tryz.prog 108 #[.slice (some ⟨b, off, none⟩) m c, t.one] w fun e w' => e = .returned (errV (teE (some q) t)) ∧ Below w.heap.size w w' := by
  by_cases hh : ¬ nErr t.bd.data.toList = 0 ∨ (idOk t.fr && idOk t.tt) = false
  · exact checkTie_bad _ m c (some q) t w z1 hh
  have hB : Below w.heap.size w (w.alloc (.cells #[.string t.bd, .int .i64 t.fr, .int .i64 t.tt] 46)) := b_alloc (Below.refl _ _) _
  have nm := fun w => name_any t.bd w z1
  have h1 : nErr t.bd.data.toList = 0 := Decidable.byContradiction fun h => hh (.inl h)
  have h2 : (idOk t.fr && idOk t.tt) = true := by
    cases h : (idOk t.fr && idOk t.tt)
    · exact absurd (.inr h) hh
    · rfl
  have e0 := (hB.cell (p := ⟨b, off + k * 3, none⟩) hb).trans q0
  have e1 := (hB.cell (p := ⟨b, off + k * 3 + 1, none⟩) hb).trans q1
  have e2 := (hB.cell (p := ⟨b, off + k * 3 + 2, none⟩) hb).trans q2
  have cc := fun w => cmpT_any t q w
  have HS : Hid (SixC b (off + k * 3) w.heap.size q t ((w.alloc (.cells #[.string t.bd, .int .i64 t.fr, .int .i64 t.tt] 46)).drew)) := by
    refine ⟨⟨?_, ?_⟩, ⟨e0, e1, e2⟩, ?_, ?_, ?_⟩
    · simp; omega
    · simp
    · simp
    · simp
    · simp
  have hbn : ¬ b = w.heap.size := by omega
  have hw1 : IntKind.i64.wrap (k : Int) = (k : Int) := by rw [IntKind.wrap_i64]; omega
  have hi1 : (k : Int) < (m : Int) := by omega
  have hg : (0 : Int) < (m : Int) := by omega
  have hg2 : 0 < m := by omega
  have HL : Hid (t.low (some q) = decide (tCmp t q ≤ 0)) := rfl
  obtain ⟨r, hr⟩ : ∃ r, tCmp t q = r := ⟨_, rfl⟩
  rw [hr] at cc HL
  by_cases h3 : r ≤ 0
  · have H3 : Hid (errV (teE (some q) t) = .iface 76 (.int .i64 7)) := by
      show _ = _
      rw [teE_low h1 h2 (by rw [HL.out]; simpa using h3), errV_7]
    rw [h1, errV_0] at nm
    rw [Bool.and_eq_true] at h2
    obtain ⟨hf, ht⟩ := h2
    clear hh h1 q0 q1 q2 HL hr
    obtain ⟨bd, fr, tt⟩ := t
    obtain ⟨qb, qf, qt⟩ := q
    simp only at H3 nm hB hf ht e0 e1 e2 cc HS ⊢
    go_enter Tryz.func108, Tryz.ntmps108
    go_wp2_with (first | (go_at_call 25; refine (nm _).mono ?_; rintro e w' ⟨rfl, rfl⟩) | (go_at_call 140; refine (isId_any _ _).mono ?_; rintro e w' ⟨rfl, rfl⟩))
    first | (go_region_held (fun w' => w'.cell? ⟨b, off + k * 3, none⟩ = some (.string qb) ∧ w'.cell? ⟨b, off + k * 3 + 1, none⟩ = some (.int .i64 qf) ∧ w'.cell? ⟨b, off + k * 3 + 2, none⟩ = some (.int .i64 qt) ∧ w'.cell? ⟨w.heap.size, 0, none⟩ = some (.string bd) ∧ w'.cell? ⟨w.heap.size, 1, none⟩ = some (.int .i64 fr) ∧ w'.cell? ⟨w.heap.size, 2, none⟩ = some (.int .i64 tt)) (go_keep) (first | (go_at_call 142; refine (cc _).mono ?_; rintro e W2 ⟨rfl, hB2⟩; obtain ⟨_, ⟨p0, p1, p2⟩, ⟨r0, r1, r2⟩⟩ := HS.out.on hB2))) | fail
    all_goals
      go_wp2
      go_ret
      exact ⟨ret_v H3.out.symm, on1 (b_drew hB) hB2⟩
  · have H3 : Hid (errV (teE (some q) t) = .nilIface) := by
      show _ = _
      rw [teE_ok h1 h2 (by rw [HL.out]; simpa using h3), errV_0]
    rw [h1, errV_0] at nm
    rw [Bool.and_eq_true] at h2
    obtain ⟨hf, ht⟩ := h2
    clear hh h1 q0 q1 q2 HL hr
    obtain ⟨bd, fr, tt⟩ := t
    obtain ⟨qb, qf, qt⟩ := q
    simp only at H3 nm hB hf ht e0 e1 e2 cc HS ⊢
    go_enter Tryz.func108, Tryz.ntmps108
    go_wp2_with (first | (go_at_call 25; refine (nm _).mono ?_; rintro e w' ⟨rfl, rfl⟩) | (go_at_call 140; refine (isId_any _ _).mono ?_; rintro e w' ⟨rfl, rfl⟩))
    first | (go_region_held (fun w' => w'.cell? ⟨b, off + k * 3, none⟩ = some (.string qb) ∧ w'.cell? ⟨b, off + k * 3 + 1, none⟩ = some (.int .i64 qf) ∧ w'.cell? ⟨b, off + k * 3 + 2, none⟩ = some (.int .i64 qt) ∧ w'.cell? ⟨w.heap.size, 0, none⟩ = some (.string bd) ∧ w'.cell? ⟨w.heap.size, 1, none⟩ = some (.int .i64 fr) ∧ w'.cell? ⟨w.heap.size, 2, none⟩ = some (.int .i64 tt)) (go_keep) (first | (go_at_call 142; refine (cc _).mono ?_; rintro e W2 ⟨rfl, hB2⟩; obtain ⟨_, ⟨p0, p1, p2⟩, ⟨r0, r1, r2⟩⟩ := HS.out.on hB2))) | fail
    all_goals
      go_wp2
      go_ret
      exact ⟨ret_v H3.out.symm, on1 (b_drew hB) hB2⟩
set_option maxHeartbeats 1000000 in
theorem gcheck_full (an am : Option Addr) (n m cn cm : Nat) (w : World) (h : 60 < n ∨ 120 < m) (hn : n ≤ maxLen) (hm : m ≤ maxLen) :
    Calls Tryz.prog 75 #[.agg #[.slice an n cn, .slice am m cm]] w fun e w' => e = .returned (.iface 76 (.int .i64 4)) ∧ Below w.heap.size w w' := by
  unfold maxLen at hn hm
  by_cases h1 : 60 < n
  · go_enter Tryz.func75, Tryz.ntmps75
    go_wp2
    go_ret
    exact ⟨rfl, b_alloc (Below.refl _ _) _⟩
  · have h2 : 120 < m := h.resolve_left h1
    go_enter Tryz.func75, Tryz.ntmps75
    go_wp2
    go_ret
    exact ⟨rfl, b_alloc (Below.refl _ _) _⟩
def gCh (N : List Nd) (T : List Te) : Int := if chkN none N = 0 then chkT none T else chkN none N
theorem checkNode_kth {b off cap : Nat} {N : List Nd} {w : World} (hb : b < w.heap.size) (hL : LiesN w b off N) (hz : SzN N) (h60 : N.length ≤ 60) {k : Nat} {n : Nd} (hn : N[k]? = some n) (W : World) (hW : Below w.heap.size w W) :
    Calls Tryz.prog 107 #[.slice (some ⟨b, off, none⟩) k cap, n.one] W fun e w' => e = .returned (errV (ndE (prvN N k) n)) ∧ Below W.heap.size W w' := by
  obtain ⟨z1, z2, z3⟩ := hz n (List.mem_of_getElem? hn)
  have hk := (List.getElem?_eq_some_iff.1 hn).1
  have hR := (hL k n hn).2.2.2.on hW
  cases k with
  | zero => exact checkNode_first _ cap n W hR z1 z2 z3
  | succ j =>
    obtain ⟨q, hq⟩ : ∃ q, N[j]? = some q := ⟨N[j], by simp⟩
    rw [prvN_s hq]
    exact checkNode_next b off j cap q n W (Nat.lt_of_lt_of_le hb hW.size) (by omega) ((hW.cell hb).trans (hL j q hq).1) hR z1 z2 z3
theorem checkTie_kth {b off cap : Nat} {T : List Te} {w : World} (hb : b < w.heap.size) (hL : LiesT w b off T) (hz : SzT T) (h120 : T.length ≤ 120) {k : Nat} {t : Te} (ht : T[k]? = some t) (W : World) (hW : Below w.heap.size w W) :
    Calls Tryz.prog 108 #[.slice (some ⟨b, off, none⟩) k cap, t.one] W fun e w' => e = .returned (errV (teE (prvT T k) t)) ∧ Below W.heap.size W w' := by
  have z1 := hz t (List.mem_of_getElem? ht)
  have hk := (List.getElem?_eq_some_iff.1 ht).1
  cases k with
  | zero => exact checkTie_first _ cap t W z1
  | succ j =>
    obtain ⟨q, hq⟩ : ∃ q, T[j]? = some q := ⟨T[j], by simp⟩
    rw [prvT_s hq]
    obtain ⟨c0, c1, c2⟩ := hL j q hq
    exact checkTie_at b off (j + 1) j cap q t W (Nat.lt_of_lt_of_le hb hW.size) (by omega) (by omega) (by omega) ((hW.cell hb).trans c0) ((hW.cell hb).trans c1) ((hW.cell hb).trans c2) z1
def FiveC (g l : Nat) (a b x y z : Value) (w : World) : Prop := (g < w.heap.size ∧ l < w.heap.size) ∧ (w.cell? ⟨g, 0, none⟩ = some a ∧ w.cell? ⟨g, 1, none⟩ = some b) ∧ (w.cell? ⟨l, 0, none⟩ = some x ∧ w.cell? ⟨l, 1, none⟩ = some y ∧ w.cell? ⟨l, 2, none⟩ = some z)
theorem FiveC.on {g l : Nat} {a b x y z : Value} {w w' : World} (h : FiveC g l a b x y z w) (hB : Below w.heap.size w w') : FiveC g l a b x y z w' := by
  obtain ⟨⟨h1, h2⟩, ⟨a0, a1⟩, ⟨b0, b1, b2⟩⟩ := h
  exact ⟨⟨Nat.lt_of_lt_of_le h1 hB.size, Nat.lt_of_lt_of_le h2 hB.size⟩, ⟨(hB.cell h1).trans a0, (hB.cell h1).trans a1⟩, ⟨(hB.cell h2).trans b0, (hB.cell h2).trans b1, (hB.cell h2).trans b2⟩⟩
theorem five_alloc {g : Nat} {a b : Value} {w : World} (hg : g < w.heap.size) (g0 : w.cell? ⟨g, 0, none⟩ = some a) (g1 : w.cell? ⟨g, 1, none⟩ = some b) (x y z : Value) (t : TypeId) : FiveC g w.heap.size a b x y z ((w.alloc (.cells #[x, y, z] t)).drew) := by
  have hB : Below w.heap.size w ((w.alloc (.cells #[x, y, z] t)).drew) := b_drew (b_alloc (Below.refl _ _) _)
  refine ⟨⟨?_, ?_⟩, ⟨(hB.cell hg).trans g0, (hB.cell hg).trans g1⟩, ?_, ?_, ?_⟩
  · simp; omega
  · simp
  · simp
  · simp
  · simp
set_option maxHeartbeats 1000000 in
set_option maxRecDepth 100000 in
theorem gcheck_in {an am : Option Addr} {cn cm : Nat} {N : List Nd} {T : List Te} {w : World} (hn : N = [] ∨ ∃ b off, an = some ⟨b, off, none⟩ ∧ b < w.heap.size ∧ LiesN w b off N) (hm : T = [] ∨ ∃ b off, am = some ⟨b, off, none⟩ ∧ b < w.heap.size ∧ LiesT w b off T)
    (hcn : N.length ≤ cn) (hcm : T.length ≤ cm) (zN : SzN N) (zT : SzT T) (h60 : N.length ≤ 60) (h120 : T.length ≤ 120) :
    Calls Tryz.prog 75 #[.agg #[.slice an N.length cn, .slice am T.length cm]] w fun e w' => e = .returned (errV (gCh N T)) ∧ Below w.heap.size w w' := by
  have HN : Hid (N = [] ∨ ∃ b off, an = some ⟨b, off, none⟩ ∧ b < w.heap.size ∧ LiesN w b off N) := hn
  have HM : Hid (T = [] ∨ ∃ b off, am = some ⟨b, off, none⟩ ∧ b < w.heap.size ∧ LiesT w b off T) := hm
  have HZ : Hid (SzN N ∧ SzT T) := ⟨zN, zT⟩
  have hB : Below w.heap.size w (w.alloc (.cells #[.slice an N.length cn, .slice am T.length cm] 67)) := b_alloc (Below.refl _ _) _
  clear hn hm zN zT
  go_enter Tryz.func75, Tryz.ntmps75
  go_wp2
  go_loopw [23] (fun i wr => ∃ k : Nat, k ≤ N.length ∧ i = .int .i64 k ∧ chkN none N = chkN (prvN N k) (N.drop k) ∧ Below (w.heap.size + 1) (w.alloc (.cells #[.slice an N.length cn, .slice am T.length cm] 67)) wr) (fun i _ => N.length - (intOf i).toNat)
  case atStart => exact ⟨0, Nat.zero_le _, rfl, rfl, Below.refl _ _⟩
  case round =>
    obtain ⟨k, hk, rfl, hc, hBr⟩ := hrel
    have HC : Hid (chkN none N = chkN (prvN N k) (N.drop k)) := hc
    have HB : Hid (Below w.heap.size w (w.alloc (.cells #[.slice an N.length cn, .slice am T.length cm] 67)) ∧ Below (w.heap.size + 1) (w.alloc (.cells #[.slice an N.length cn, .slice am T.length cm] 67)) wr) := ⟨hB, hBr⟩
    have g0 : wr.cell? ⟨w.heap.size, 0, none⟩ = some (.slice an N.length cn) := (hBr.cell (by simp)).trans (by simp)
    have g1 : wr.cell? ⟨w.heap.size, 1, none⟩ = some (.slice am T.length cm) := (hBr.cell (by simp)).trans (by simp)
    clear hc hB hBr
    by_cases hlt : k < N.length
    · obtain ⟨n, hn⟩ : ∃ n, N[k]? = some n := ⟨N[k], by simp [hlt]⟩
      rcases HN.out with rfl | ⟨b, off, rfl, hb, hL⟩
      · exact absurd hlt (by simp)
      have HD : Hid (N.drop k = n :: N.drop (k + 1)) := dropN hn
      have HP : Hid (N[k]? = some n) := hn
      obtain ⟨c0, c1, c2, cR⟩ := hL k n hn
      have hbw : Below w.heap.size w wr := HB.out.1.trans (HB.out.2.mono (by simp))
      have d0 := (hbw.cell (p := ⟨b, off + k * 3, none⟩) hb).trans c0
      have d1 := (hbw.cell (p := ⟨b, off + k * 3 + 1, none⟩) hb).trans c1
      have d2 := (hbw.cell (p := ⟨b, off + k * 3 + 2, none⟩) hb).trans c2
      have cc := fun W hW => checkNode_kth (cap := cn) hb hL HZ.out.1 h60 hn W (on1 hbw hW)
      have hbr : b < wr.heap.size := Nat.lt_of_lt_of_le hb hbw.size
      have hwr : w.heap.size < wr.heap.size := by have := HB.out.2.size; simp at this; omega
      have hbn : ¬ b = wr.heap.size := by omega
      have hkc : (k : Int) ≤ (cn : Int) := by omega
      have hw1 : ¬ w.heap.size = wr.heap.size := by omega
      have HR : Hid (IsR w n.rv n.rc) := cR
      clear c0 c1 c2 cR hL hn
      obtain ⟨id, kd, rv, rc⟩ := n
      simp only at d0 d1 d2 HR
      obtain ⟨av, cv, rfl, _⟩ := HR.out
      have HW : Hid (Below w.heap.size w wr) := hbw
      have HI : Hid (Below wr.heap.size wr ((wr.alloc (.cells #[.int .i64 id, .string kd, .slice av rc.length cv] 40)).drew)) := b_drew (b_alloc (Below.refl _ _) _)
      have HS : Hid (FiveC w.heap.size wr.heap.size (.slice (some ⟨b, off, none⟩) N.length cn) (.slice am T.length cm) (.int .i64 id) (.string kd) (.slice av rc.length cv) ((wr.alloc (.cells #[.int .i64 id, .string kd, .slice av rc.length cv] 40)).drew)) := five_alloc hwr g0 g1 _ _ _ 40
      have cd := cc ((wr.alloc (.cells #[.int .i64 id, .string kd, .slice av rc.length cv] 40)).drew) HI.out
      clear cc hbw
      by_cases he : ndE (prvN N k) ⟨id, kd, .slice av rc.length cv, rc⟩ = 0
      · rw [he, errV_0] at cd
        have HC' : Hid (chkN none N = chkN (prvN N (k + 1)) (N.drop (k + 1))) := by
          show _ = _
          rw [HC.out, HD.out, chkN_ok he, prvN_s HP.out]
        clear he HC HD
        go_wp2
        first | (go_region_held (fun w' => w'.cell? ⟨w.heap.size, 0, none⟩ = some (.slice (some ⟨b, off, none⟩) N.length cn) ∧ w'.cell? ⟨wr.heap.size, 0, none⟩ = some (.int .i64 id) ∧ w'.cell? ⟨wr.heap.size, 1, none⟩ = some (.string kd) ∧ w'.cell? ⟨wr.heap.size, 2, none⟩ = some (.slice av rc.length cv)) (go_keep) (first | (go_at_call 107; refine cd.mono ?_; rintro e W2 ⟨rfl, hB2⟩; obtain ⟨_, ⟨p0, p1⟩, ⟨r0, r1, r2⟩⟩ := HS.out.on hB2))) | fail
        all_goals
          go_wp2
          go_roundw
          case rel => exact ⟨k + 1, by omega, by go_num, HC'.out, HB.out.2.trans ((on1 HI.out hB2).mono (by omega))⟩
          case measure => simp [intOf]; omega
      · have H : Hid (errV (gCh N T) = .iface 76 (.int .i64 (ndE (prvN N k) ⟨id, kd, .slice av rc.length cv, rc⟩))) := by
          show _ = _
          have e : chkN none N = ndE (prvN N k) ⟨id, kd, .slice av rc.length cv, rc⟩ := by rw [HC.out, HD.out, chkN_bad he]
          unfold gCh; rw [e, if_neg he, errV_ne he]
        rw [errV_ne he] at cd
        clear he HC HD
        go_wp2
        first | (go_region_held (fun w' => w'.cell? ⟨w.heap.size, 0, none⟩ = some (.slice (some ⟨b, off, none⟩) N.length cn) ∧ w'.cell? ⟨wr.heap.size, 0, none⟩ = some (.int .i64 id) ∧ w'.cell? ⟨wr.heap.size, 1, none⟩ = some (.string kd) ∧ w'.cell? ⟨wr.heap.size, 2, none⟩ = some (.slice av rc.length cv)) (go_keep) (first | (go_at_call 107; refine cd.mono ?_; rintro e W2 ⟨rfl, hB2⟩; obtain ⟨_, ⟨p0, p1⟩, ⟨r0, r1, r2⟩⟩ := HS.out.on hB2))) | fail
        all_goals
          go_wp2
          go_ret
          exact ⟨ret_v H.out.symm, on1 (on1 HW.out HI.out) hB2⟩
    · have hd : N.drop k = [] := List.drop_eq_nil_of_le (by omega)
      have H0 : Hid (chkN none N = 0) := by
        show _ = _
        rw [HC.out, hd, chkN_end]
      have HW : Hid (Below w.heap.size w wr) := HB.out.1.trans (HB.out.2.mono (by simp))
      have hwr : w.heap.size < wr.heap.size := by have := HB.out.2.size; simp at this; omega
      obtain rfl : k = N.length := by omega
      clear HC hd HB hk hlt
      go_wp2
      obtain ⟨wo, hwo⟩ : ∃ wo, wo = wr := ⟨wr, rfl⟩
      subst hwo
      have hwo := hwr
      clear hwr
      go_loopw [41] (fun i wr => ∃ k : Nat, k ≤ T.length ∧ i = .int .i64 k ∧ chkT none T = chkT (prvT T k) (T.drop k) ∧ Below wo.heap.size wo wr) (fun i _ => T.length - (intOf i).toNat)
      case atStart => exact ⟨0, Nat.zero_le _, rfl, rfl, Below.refl _ _⟩
      case round =>
        obtain ⟨k, hk, rfl, hc, hBr⟩ := hrel
        have HC : Hid (chkT none T = chkT (prvT T k) (T.drop k)) := hc
        have HB : Hid (Below wo.heap.size wo wr) := hBr
        have G0 : wr.cell? ⟨w.heap.size, 0, none⟩ = some (.slice an N.length cn) := (hBr.cell hwo).trans g0
        have G1 : wr.cell? ⟨w.heap.size, 1, none⟩ = some (.slice am T.length cm) := (hBr.cell hwo).trans g1
        clear hc hBr g0 g1
        by_cases hlt : k < T.length
        · obtain ⟨n, hn⟩ : ∃ n, T[k]? = some n := ⟨T[k], by simp [hlt]⟩
          rcases HM.out with rfl | ⟨b, off, rfl, hb, hL⟩
          · exact absurd hlt (by simp)
          have HD : Hid (T.drop k = n :: T.drop (k + 1)) := dropN hn
          have HP : Hid (T[k]? = some n) := hn
          obtain ⟨c0, c1, c2⟩ := hL k n hn
          have hbw : Below w.heap.size w wr := on1 HW.out HB.out
          have d0 := (hbw.cell (p := ⟨b, off + k * 3, none⟩) hb).trans c0
          have d1 := (hbw.cell (p := ⟨b, off + k * 3 + 1, none⟩) hb).trans c1
          have d2 := (hbw.cell (p := ⟨b, off + k * 3 + 2, none⟩) hb).trans c2
          have cc := fun W hW => checkTie_kth (cap := cm) hb hL HZ.out.2 h120 hn W (on1 hbw hW)
          have hbr : b < wr.heap.size := Nat.lt_of_lt_of_le hb hbw.size
          have hwq : w.heap.size < wr.heap.size := Nat.lt_of_lt_of_le hwo HB.out.size
          have hbn : ¬ b = wr.heap.size := by omega
          have hkc : (k : Int) ≤ (cm : Int) := by omega
          have hw1 : ¬ w.heap.size = wr.heap.size := by omega
          clear c0 c1 c2 hL hn
          obtain ⟨bd, fr, tt⟩ := n
          simp only at d0 d1 d2
          have HV : Hid (Below w.heap.size w wr) := hbw
          have HI : Hid (Below wr.heap.size wr ((wr.alloc (.cells #[.string bd, .int .i64 fr, .int .i64 tt] 46)).drew)) := b_drew (b_alloc (Below.refl _ _) _)
          have HS : Hid (FiveC w.heap.size wr.heap.size (.slice an N.length cn) (.slice (some ⟨b, off, none⟩) T.length cm) (.string bd) (.int .i64 fr) (.int .i64 tt) ((wr.alloc (.cells #[.string bd, .int .i64 fr, .int .i64 tt] 46)).drew)) := five_alloc hwq G0 G1 _ _ _ 46
          have cd := cc ((wr.alloc (.cells #[.string bd, .int .i64 fr, .int .i64 tt] 46)).drew) HI.out
          clear cc hbw
          by_cases he : teE (prvT T k) ⟨bd, fr, tt⟩ = 0
          · rw [he, errV_0] at cd
            have HC' : Hid (chkT none T = chkT (prvT T (k + 1)) (T.drop (k + 1))) := by
              show _ = _
              rw [HC.out, HD.out, chkT_ok he, prvT_s HP.out]
            clear he HC HD
            go_wp2
            first | (go_region_held (fun w' => w'.cell? ⟨w.heap.size, 1, none⟩ = some (.slice (some ⟨b, off, none⟩) T.length cm) ∧ w'.cell? ⟨wr.heap.size, 0, none⟩ = some (.string bd) ∧ w'.cell? ⟨wr.heap.size, 1, none⟩ = some (.int .i64 fr) ∧ w'.cell? ⟨wr.heap.size, 2, none⟩ = some (.int .i64 tt)) (go_keep) (first | (go_at_call 108; refine cd.mono ?_; rintro e W2 ⟨rfl, hB2⟩; obtain ⟨_, ⟨p0, p1⟩, ⟨r0, r1, r2⟩⟩ := HS.out.on hB2))) | fail
            all_goals
              go_wp2
              go_roundw
              case rel => exact ⟨k + 1, by omega, by go_num, HC'.out, on1 HB.out (on1 HI.out hB2)⟩
              case measure => simp [intOf]; omega
          · have H : Hid (errV (gCh N T) = .iface 76 (.int .i64 (teE (prvT T k) ⟨bd, fr, tt⟩))) := by
              show _ = _
              have e : chkT none T = teE (prvT T k) ⟨bd, fr, tt⟩ := by rw [HC.out, HD.out, chkT_bad he]
              unfold gCh; rw [if_pos H0.out, e, errV_ne he]
            rw [errV_ne he] at cd
            clear he HC HD
            go_wp2
            first | (go_region_held (fun w' => w'.cell? ⟨w.heap.size, 1, none⟩ = some (.slice (some ⟨b, off, none⟩) T.length cm) ∧ w'.cell? ⟨wr.heap.size, 0, none⟩ = some (.string bd) ∧ w'.cell? ⟨wr.heap.size, 1, none⟩ = some (.int .i64 fr) ∧ w'.cell? ⟨wr.heap.size, 2, none⟩ = some (.int .i64 tt)) (go_keep) (first | (go_at_call 108; refine cd.mono ?_; rintro e W2 ⟨rfl, hB2⟩; obtain ⟨_, ⟨p0, p1⟩, ⟨r0, r1, r2⟩⟩ := HS.out.on hB2))) | fail
            all_goals
              go_wp2
              go_ret
              exact ⟨ret_v H.out.symm, on1 (on1 HV.out HI.out) hB2⟩
        · have hd : T.drop k = [] := List.drop_eq_nil_of_le (by omega)
          have H : Hid (errV (gCh N T) = .nilIface) := by
            show _ = _
            unfold gCh; rw [if_pos H0.out, HC.out, hd, chkT_end]; rfl
          clear HC hd
          go_wp2
          go_ret
          exact ⟨ret_v H.out.symm, on1 HW.out HB.out⟩
theorem gErr_full {N : List Nd} {T : List Te} (h : 60 < N.length ∨ 120 < T.length) : gErr N T = 4 := by unfold gErr; rw [if_pos h]
theorem gErr_in {N : List Nd} {T : List Te} (h : ¬ (60 < N.length ∨ 120 < T.length)) : gErr N T = gCh N T := by unfold gErr; rw [if_neg h]; rfl
theorem gcheck_any {vn vt : Value} {N : List Nd} {T : List Te} {w : World} (hN : IsN w vn N) (hT : IsT w vt T) (zN : SzN N) (zT : SzT T) (lN : N.length ≤ maxLen) (lT : T.length ≤ maxLen) :
    Calls Tryz.prog 75 #[.agg #[vn, vt]] w fun e w' => e = .returned (errV (gErr N T)) ∧ Below w.heap.size w w' := by
  obtain ⟨an, cn, rfl, hcn, hn⟩ := hN
  obtain ⟨am, cm, rfl, hcm, hm⟩ := hT
  by_cases h : 60 < N.length ∨ 120 < T.length
  · rw [gErr_full h, errV_4]
    exact gcheck_full an am _ _ cn cm w h lN lT
  · rw [gErr_in h]
    exact gcheck_in hn hm hcn hcm zN zT (by omega) (by omega)
end Go.Proofs.YtahamkajkkkjdaaGreatDoor
