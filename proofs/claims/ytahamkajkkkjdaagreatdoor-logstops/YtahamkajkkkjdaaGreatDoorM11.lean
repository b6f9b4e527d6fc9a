import Derived.Test.YtahamkajkkkjdaaGreatDoorM10
import Derived.Deep.RegionLaw
import Derived.Lib.Small
import Derived.Lib.Slices
import Derived.Lib.Walk
import Derived.Lib.Bytealg
import Derived.Deep.RegionWith
import Derived.Deep.RegionHeld3
namespace Go.Proofs.YtahamkajkkkjdaaGreatDoor
open Go.RowKit
set_option linter.unusedVariables false
set_option linter.unusedSimpArgs false
theorem errV_7 : errV 7 = .iface 76 (.int .i64 7) := rfl
theorem prv_0 (L : List Pr) : prv L 0 = none := rfl
theorem prv_s {L : List Pr} {k : Nat} {q : Pr} (h : L[k]? = some q) : prv L (k + 1) = some q := by unfold prv; rw [if_neg (by omega)]; simpa using h
theorem b_alloc {w wr : World} (h : Below w.heap.size w wr) (o : Obj) : Below w.heap.size w (wr.alloc o) := h.alloc h.size _
theorem b_drewN {B : Nat} {a w : World} (h : Below B a w) : ∀ n, Below B a (w.drewN n) := fun n => ⟨h.os, h.tape, h.output, h.size, h.block⟩
set_option maxHeartbeats 4000000 in
set_option maxRecDepth 100000 in
theorem rcheck_some (b off cap : Nat) (L : List Pr) (w : World) (hb : b < w.heap.size) (hL : Lies w b off L) (hs : Sz L) (hn : L.length ≤ 8) :
    Calls Tryz.prog 141 #[.slice (some ⟨b, off, none⟩) L.length cap] w fun e w' => e = .returned (errV (chk none L)) ∧ Below w.heap.size w w' := by
  go_enter Tryz.func141, Tryz.ntmps141
  go_wp2
  go_loopw [13] (fun i wr => ∃ k : Nat, k ≤ L.length ∧ i = .int .i64 k ∧ chk none L = chk (prv L k) (L.drop k) ∧ Below w.heap.size w wr) (fun i _ => L.length - (intOf i).toNat)
  case atStart => exact ⟨0, Nat.zero_le _, rfl, rfl, Below.refl _ _⟩
  case round =>
    obtain ⟨k, hk, rfl, hc, hB⟩ := hrel
    have HC : Hid (chk none L = chk (prv L k) (L.drop k)) := hc
    clear hc
    by_cases hlt : k < L.length
    · obtain ⟨p, hp⟩ : ∃ p, L[k]? = some p := ⟨L[k], by simp [hlt]⟩
      obtain ⟨c0, c1, c2, c3⟩ := hL k p hp
      have d0 := (hB.cell (p := ⟨b, off + k * 4, none⟩) hb).trans c0
      have d1 := (hB.cell (p := ⟨b, off + k * 4 + 1, none⟩) hb).trans c1
      have d2 := (hB.cell (p := ⟨b, off + k * 4 + 2, none⟩) hb).trans c2
      have d3 := (hB.cell (p := ⟨b, off + k * 4 + 3, none⟩) hb).trans c3
      have HP : Hid (L[k]? = some p) := hp
      have HD : Hid (L.drop k = p :: L.drop (k + 1)) := drop_at hp
      obtain ⟨z1, z2⟩ := hs p (List.mem_of_getElem? hp)
      have hbr : b < wr.heap.size := Nat.lt_of_lt_of_le hb hB.size
      have hbn : ¬ b = wr.heap.size := by omega
      have nm := fun w => name_any p.nm w z1
      have cm := fun w => check_any p.t p.n p.s w z2
      have HZ : Hid (L.length ≤ 8 ∧ Sz L ∧ Lies w b off L) := ⟨hn, hs, hL⟩
      clear c0 c1 c2 c3 hp hs hL
      by_cases h1 : nErr p.l = 0
      · by_cases h2 : p.bad = 0
        · have nm' : ∀ w, Calls Tryz.prog 25 #[.string p.nm] w fun e w' => e = .returned .nilIface ∧ w' = w := fun w => by
            have := nm w; rw [show nErr p.nm.data.toList = 0 from h1] at this; exact this
          have cm' : ∀ w, Calls Tryz.prog 178 #[val p.t p.n p.s] w fun e w' => e = .returned .nilIface ∧ w' = w.alloc (.cells #[.int .i64 p.t, .int .i64 p.n, .string p.s] 42) := fun w => by
            have := cm w; rw [show vErr p.t p.n p.s.data.toList = 0 from h2] at this; exact this
          clear nm cm
          have H12 : Hid (nErr p.l = 0 ∧ p.bad = 0) := ⟨h1, h2⟩
          clear h1 h2
          by_cases hk0 : k = 0
          · subst hk0
            have hstep : Hid (chk none L = chk (prv L (0 + 1)) (L.drop (0 + 1))) := by
              show _ = _
              have := HC.out; rw [HD.out, prv_0, chk_first H12.out.1 H12.out.2] at this
              rw [this, prv_s HP.out]
            clear HC HD H12
            simp only [Nat.zero_mul, Nat.add_zero] at d0 d1 d2 d3
            go_wp2_with (first | (go_at_call 25; refine (nm' _).mono ?_; rintro e w' ⟨rfl, rfl⟩) | (go_at_call 178; refine (cm' _).mono ?_; rintro e w' ⟨rfl, rfl⟩))
            go_quiet (fail)
            go_wp2
            go_roundw
            case rel => exact ⟨0 + 1, by omega, by go_num, hstep.out, b_drewN (b_alloc (b_alloc hB _) _) _⟩
            case measure => simp [intOf]; omega
          · obtain ⟨q, hq⟩ : ∃ q, L[k - 1]? = some q := ⟨L[k - 1], by simp⟩
            have hprv : prv L k = some q := by unfold prv; rw [if_neg hk0]; exact hq
            obtain ⟨c0, _⟩ := HZ.out.2.2 (k - 1) q hq
            have e0 := (hB.cell (p := ⟨b, off + (k - 1) * 4, none⟩) hb).trans c0
            have hw1 : IntKind.i64.wrap ((k - 1 : Nat) : Int) = ((k - 1 : Nat) : Int) := by rw [IntKind.wrap_i64]; omega
            have hb1 : ((k - 1 : Nat) : Int) < (L.length : Int) := by omega
            have hg : 0 < k := by omega
            have hcast : (k : Int) - 1 = ((k - 1 : Nat) : Int) := by omega
            clear c0 hq
            by_cases h3 : p.low q = true
            · have H : Hid (errV (chk none L) = .iface 76 (.int .i64 7)) := by
                show _ = _
                rw [HC.out, HD.out, hprv, chk_low H12.out.1 H12.out.2 h3, errV_7]
              clear HC HD H12 hprv
              rcases low_parts h3 with h3' | ⟨h3', h4'⟩
              all_goals
                clear h3
                go_wp2_with (first | (go_at_call 25; refine (nm' _).mono ?_; rintro e w' ⟨rfl, rfl⟩) | (go_at_call 178; refine (cm' _).mono ?_; rintro e w' ⟨rfl, rfl⟩))
                go_quiet (fail)
                go_wp2
                go_ret
                exact ⟨ret_v H.out.symm, b_drewN (b_alloc (b_alloc hB _) _) _⟩
            · have hstep : Hid (chk none L = chk (prv L (k + 1)) (L.drop (k + 1))) := by
                show _ = _
                have := HC.out; rw [HD.out, hprv, chk_up H12.out.1 H12.out.2 (by simpa using h3)] at this
                rw [this, prv_s HP.out]
              clear HC HD H12 hprv
              obtain ⟨h3', h4'⟩ := up_parts h3
              clear h3
              go_wp2_with (first | (go_at_call 25; refine (nm' _).mono ?_; rintro e w' ⟨rfl, rfl⟩) | (go_at_call 178; refine (cm' _).mono ?_; rintro e w' ⟨rfl, rfl⟩))
              go_quiet (fail)
              go_wp2
              go_roundw
              case rel => exact ⟨k + 1, by omega, by go_num, hstep.out, b_drewN (b_alloc (b_alloc hB _) _) _⟩
              case measure => simp [intOf]; omega
        · have cm' : ∀ w, Calls Tryz.prog 178 #[val p.t p.n p.s] w fun e w' => e = .returned (.iface 76 (.int .i64 p.bad)) ∧ w' = w.alloc (.cells #[.int .i64 p.t, .int .i64 p.n, .string p.s] 42) := fun w => by
            have := cm w; rw [show vErr p.t p.n p.s.data.toList = p.bad from rfl, errV_ne h2] at this; exact this
          have nm' : ∀ w, Calls Tryz.prog 25 #[.string p.nm] w fun e w' => e = .returned .nilIface ∧ w' = w := fun w => by
            have := nm w; rw [show nErr p.nm.data.toList = 0 from h1] at this; exact this
          have H : Hid (errV (chk none L) = .iface 76 (.int .i64 p.bad)) := by
            show _ = _
            rw [HC.out, HD.out, chk_bad h1 h2, errV_ne h2]
          clear HC HD nm cm h1 h2
          go_wp2_with (first | (go_at_call 25; refine (nm' _).mono ?_; rintro e w' ⟨rfl, rfl⟩) | (go_at_call 178; refine (cm' _).mono ?_; rintro e w' ⟨rfl, rfl⟩))
          go_ret
          exact ⟨ret_v H.out.symm, b_alloc (b_alloc hB _) _⟩
      · have nm' : ∀ w, Calls Tryz.prog 25 #[.string p.nm] w fun e w' => e = .returned (.iface 76 (.int .i64 (nErr p.l))) ∧ w' = w := fun w => by
          have := nm w; rw [show nErr p.nm.data.toList = nErr p.l from rfl, errV_ne h1] at this; exact this
        have H : Hid (errV (chk none L) = .iface 76 (.int .i64 (nErr p.l))) := by
          show _ = _
          rw [HC.out, HD.out, chk_name h1, errV_ne h1]
        clear HC HD nm cm h1
        go_wp2_with (first | (go_at_call 25; refine (nm' _).mono ?_; rintro e w' ⟨rfl, rfl⟩))
        go_ret
        exact ⟨ret_v H.out.symm, b_alloc hB _⟩
    · have hd : L.drop k = [] := List.drop_eq_nil_of_le (by omega)
      have H : Hid (errV (chk none L) = .nilIface) := by
        show _ = _
        rw [HC.out, hd, chk_end]; rfl
      clear HC hd
      go_wp2
      go_ret
      exact ⟨ret_v H.out.symm, hB⟩
def IsRec (w : World) (v : Value) (L : List Pr) : Prop :=
  (v = .slice none 0 0 ∧ L = []) ∨ ∃ b off cap, v = .slice (some ⟨b, off, none⟩) L.length cap ∧ L.length ≤ cap ∧ b < w.heap.size ∧ Lies w b off L
theorem Lies.on {w w' : World} {b off : Nat} {L : List Pr} (h : Lies w b off L) (hb : b < w.heap.size) (hB : Below w.heap.size w w') : Lies w' b off L := fun k p hp => by
  obtain ⟨c0, c1, c2, c3⟩ := h k p hp
  exact ⟨(hB.cell hb).trans c0, (hB.cell hb).trans c1, (hB.cell hb).trans c2, (hB.cell hb).trans c3⟩
theorem IsRec.on {w w' : World} {v : Value} {L : List Pr} (h : IsRec w v L) (hB : Below w.heap.size w w') : IsRec w' v L := by
  rcases h with h | ⟨b, off, cap, hv, hc, hb, hl⟩
  · exact .inl h
  · exact .inr ⟨b, off, cap, hv, hc, Nat.lt_of_lt_of_le hb hB.size, hl.on hb hB⟩
set_option maxHeartbeats 1000000 in
theorem rcheck_nil (ao : Option Addr) (c : Nat) (w : World) : Calls Tryz.prog 141 #[.slice ao 0 c] w fun e w' => e = .returned (errV (rErr [])) ∧ Below w.heap.size w w' := by
  go_enter Tryz.func141, Tryz.ntmps141
  go_wp2
  go_loopw [13] (fun i wr => i = .int .i64 0 ∧ wr = w) (fun i _ => 0)
  case atStart => exact ⟨rfl, rfl⟩
  case round =>
    obtain ⟨rfl, rfl⟩ := hrel
    go_wp2
    go_ret
    exact ⟨rfl, Below.refl _ _⟩
set_option maxHeartbeats 1000000 in
theorem rcheck_many (ao : Option Addr) (n cap : Nat) (w : World) (h : 8 < n) (hm : n ≤ maxLen) : Calls Tryz.prog 141 #[.slice ao n cap] w fun e w' => e = .returned (.iface 76 (.int .i64 4)) ∧ Below w.heap.size w w' := by
  unfold maxLen at hm
  go_enter Tryz.func141, Tryz.ntmps141
  go_wp2
  go_ret
  exact ⟨rfl, Below.refl _ _⟩
structure Nd where
  id : Int
  kd : ByteArray
  rv : Value
  rc : List Pr
structure Te where
  bd : ByteArray
  fr : Int
  tt : Int
abbrev Nd.one (n : Nd) : Value := .agg #[.int .i64 n.id, .string n.kd, n.rv]
abbrev Te.one (t : Te) : Value := .agg #[.string t.bd, .int .i64 t.fr, .int .i64 t.tt]
def idOk (i : Int) : Bool := decide (1 ≤ i) && decide (i ≤ 1000)
def Nd.low (n : Nd) (o : Option Nd) : Bool := match o with | none => false | some q => decide (n.id ≤ q.id)
def ndE (o : Option Nd) (n : Nd) : Int :=
  if idOk n.id = true then (if n.low o = true then 7 else if nErr n.kd.data.toList = 0 then rErr n.rc else nErr n.kd.data.toList) else 1
def chkN : Option Nd → List Nd → Int
  | _, [] => 0
  | o, n :: r => if ndE o n = 0 then chkN (some n) r else ndE o n
def or3 (a b c : Int) : Int := if a = 0 then (if b = 0 then c else b) else a
def tCmp (a b : Te) : Int := or3 (Lib.compareBytes a.bd.data.toList b.bd.data.toList) (Lib.compareInt a.fr b.fr) (Lib.compareInt a.tt b.tt)
def Te.low (t : Te) (o : Option Te) : Bool := match o with | none => false | some q => decide (tCmp t q ≤ 0)
def teE (o : Option Te) (t : Te) : Int :=
  if nErr t.bd.data.toList = 0 then (if (idOk t.fr && idOk t.tt) = true then (if t.low o = true then 7 else 0) else 1) else nErr t.bd.data.toList
def chkT : Option Te → List Te → Int
  | _, [] => 0
  | o, t :: r => if teE o t = 0 then chkT (some t) r else teE o t
def gErr (N : List Nd) (T : List Te) : Int :=
  if 60 < N.length ∨ 120 < T.length then 4 else if chkN none N = 0 then chkT none T else chkN none N
def prvN (L : List Nd) (k : Nat) : Option Nd := if k = 0 then none else L[k - 1]?
def prvT (L : List Te) (k : Nat) : Option Te := if k = 0 then none else L[k - 1]?
def IsR (w : World) (v : Value) (L : List Pr) : Prop :=
  ∃ ao c, v = .slice ao L.length c ∧ (L = [] ∨ ∃ b off, ao = some ⟨b, off, none⟩ ∧ b < w.heap.size ∧ Lies w b off L)
theorem IsR.on {w w' : World} {v : Value} {L : List Pr} (h : IsR w v L) (hB : Below w.heap.size w w') : IsR w' v L := by
  obtain ⟨ao, c, rfl, h0 | ⟨b, off, rfl, hb, hL⟩⟩ := h
  · exact ⟨ao, c, rfl, .inl h0⟩
  · refine ⟨_, c, rfl, .inr ⟨b, off, rfl, Nat.lt_of_lt_of_le hb hB.size, fun k p hp => ?_⟩⟩
    obtain ⟨c0, c1, c2, c3⟩ := hL k p hp
    exact ⟨(hB.cell hb).trans c0, (hB.cell hb).trans c1, (hB.cell hb).trans c2, (hB.cell hb).trans c3⟩
theorem rcheck_r {v : Value} {L : List Pr} {w : World} (h : IsR w v L) (hs : Sz L) (hm : L.length ≤ maxLen) : Calls Tryz.prog 141 #[v] w fun e w' => e = .returned (errV (rErr L)) ∧ Below w.heap.size w w' := by
  obtain ⟨ao, c, rfl, rfl | ⟨b, off, rfl, hb, hl⟩⟩ := h
  · exact rcheck_nil _ _ w
  · by_cases h8 : 8 < L.length
    · have e : rErr L = 4 := by unfold rErr; rw [if_pos h8]
      rw [e]; exact rcheck_many _ _ _ _ h8 hm
    · have e : rErr L = chk none L := by unfold rErr; rw [if_neg h8]
      rw [e]; exact rcheck_some b off c L w hb hl hs (by omega)
def LiesN (w : World) (b off : Nat) (N : List Nd) : Prop :=
  ∀ k n, N[k]? = some n → w.cell? ⟨b, off + k * 3, none⟩ = some (.int .i64 n.id) ∧ w.cell? ⟨b, off + k * 3 + 1, none⟩ = some (.string n.kd) ∧ w.cell? ⟨b, off + k * 3 + 2, none⟩ = some n.rv ∧ IsR w n.rv n.rc
def LiesT (w : World) (b off : Nat) (T : List Te) : Prop :=
  ∀ k t, T[k]? = some t → w.cell? ⟨b, off + k * 3, none⟩ = some (.string t.bd) ∧ w.cell? ⟨b, off + k * 3 + 1, none⟩ = some (.int .i64 t.fr) ∧ w.cell? ⟨b, off + k * 3 + 2, none⟩ = some (.int .i64 t.tt)
def IsN (w : World) (v : Value) (N : List Nd) : Prop :=
  ∃ ao c, v = .slice ao N.length c ∧ N.length ≤ c ∧ (N = [] ∨ ∃ b off, ao = some ⟨b, off, none⟩ ∧ b < w.heap.size ∧ LiesN w b off N)
def IsT (w : World) (v : Value) (T : List Te) : Prop :=
  ∃ ao c, v = .slice ao T.length c ∧ T.length ≤ c ∧ (T = [] ∨ ∃ b off, ao = some ⟨b, off, none⟩ ∧ b < w.heap.size ∧ LiesT w b off T)
theorem LiesN.on {w w' : World} {b off : Nat} {N : List Nd} (h : LiesN w b off N) (hb : b < w.heap.size) (hB : Below w.heap.size w w') : LiesN w' b off N := fun k n hn => by
  obtain ⟨c0, c1, c2, c3⟩ := h k n hn
  exact ⟨(hB.cell hb).trans c0, (hB.cell hb).trans c1, (hB.cell hb).trans c2, c3.on hB⟩
theorem LiesT.on {w w' : World} {b off : Nat} {T : List Te} (h : LiesT w b off T) (hb : b < w.heap.size) (hB : Below w.heap.size w w') : LiesT w' b off T := fun k n hn => by
  obtain ⟨c0, c1, c2⟩ := h k n hn
  exact ⟨(hB.cell hb).trans c0, (hB.cell hb).trans c1, (hB.cell hb).trans c2⟩
theorem IsN.on {w w' : World} {v : Value} {N : List Nd} (h : IsN w v N) (hB : Below w.heap.size w w') : IsN w' v N := by
  obtain ⟨ao, c, rfl, hc, h0 | ⟨b, off, rfl, hb, hL⟩⟩ := h
  · exact ⟨ao, c, rfl, hc, .inl h0⟩
  · exact ⟨_, c, rfl, hc, .inr ⟨b, off, rfl, Nat.lt_of_lt_of_le hb hB.size, hL.on hb hB⟩⟩
theorem IsT.on {w w' : World} {v : Value} {T : List Te} (h : IsT w v T) (hB : Below w.heap.size w w') : IsT w' v T := by
  obtain ⟨ao, c, rfl, hc, h0 | ⟨b, off, rfl, hb, hL⟩⟩ := h
  · exact ⟨ao, c, rfl, hc, .inl h0⟩
  · exact ⟨_, c, rfl, hc, .inr ⟨b, off, rfl, Nat.lt_of_lt_of_le hb hB.size, hL.on hb hB⟩⟩
def SzN (N : List Nd) : Prop := ∀ n ∈ N, n.kd.size ≤ maxLen ∧ Sz n.rc ∧ n.rc.length ≤ maxLen
def SzT (T : List Te) : Prop := ∀ t ∈ T, t.bd.size ≤ maxLen
theorem dropN {α : Type} {L : List α} {k : Nat} {p : α} (h : L[k]? = some p) : L.drop k = p :: L.drop (k + 1) := by
  obtain ⟨hk, rfl⟩ := List.getElem?_eq_some_iff.1 h
  exact List.drop_eq_getElem_cons hk
theorem prvN_s {L : List Nd} {k : Nat} {q : Nd} (h : L[k]? = some q) : prvN L (k + 1) = some q := by unfold prvN; rw [if_neg (by omega)]; simpa using h
theorem prvT_s {L : List Te} {k : Nat} {q : Te} (h : L[k]? = some q) : prvT L (k + 1) = some q := by unfold prvT; rw [if_neg (by omega)]; simpa using h
theorem chkN_end (o : Option Nd) : chkN o [] = 0 := by cases o <;> rfl
theorem chkT_end (o : Option Te) : chkT o [] = 0 := by cases o <;> rfl
theorem chkN_ok {o : Option Nd} {n : Nd} {r : List Nd} (h : ndE o n = 0) : chkN o (n :: r) = chkN (some n) r := by simp [chkN, h]
theorem chkN_bad {o : Option Nd} {n : Nd} {r : List Nd} (h : ¬ ndE o n = 0) : chkN o (n :: r) = ndE o n := by simp [chkN, h]
theorem chkT_ok {o : Option Te} {n : Te} {r : List Te} (h : teE o n = 0) : chkT o (n :: r) = chkT (some n) r := by simp [chkT, h]
theorem chkT_bad {o : Option Te} {n : Te} {r : List Te} (h : ¬ teE o n = 0) : chkT o (n :: r) = teE o n := by simp [chkT, h]
theorem isId_any (i : Int) (w : World) : Calls Tryz.prog 140 #[.int .i64 i] w fun e w' => e = .returned (.bool (idOk i)) ∧ w' = w := by
  go_enter Tryz.func140, Tryz.ntmps140
  go_wp2
  all_goals
    go_ret
    exact ⟨ret_bool (by unfold idOk; simp; omega), rfl⟩
set_option maxHeartbeats 1000000 in
theorem cmp_any (x y : Int) (w : World) : Calls Tryz.prog 180 #[.int .i64 x, .int .i64 y] w fun e w' => e = .returned (.int .i64 (Lib.compareInt x y)) ∧ w' = w := by
  go_enter Tryz.func180, Tryz.ntmps180
  go_wp2
  all_goals (go_ret; refine ⟨?_, rfl⟩; unfold Lib.compareInt; (repeat' split) <;> first | rfl | (exfalso; omega))
set_option maxHeartbeats 1000000 in
set_option maxRecDepth 100000 in
theorem cmpStr_any (a b : ByteArray) (w : World) : Calls Tryz.prog 98 #[.string a, .string b] w fun e w' => e = .returned (.int .i64 (Lib.compareBytes a.data.toList b.data.toList)) ∧ w' = w := by
  go_enter Tryz.func98, Tryz.ntmps98
  go_wp2
  rw [run_callFunc_extern Tryz.func132 (by kernel_rfl) (by kernel_rfl) (by kernel_rfl) (e := Extern.BytealgCompare.compare) (by kernel_rfl), Lib.run_compareString]
  simp only [Result.andThen]
  rw [Oper.upon_value]
  go_wp2
  go_ret
  exact ⟨rfl, rfl⟩
theorem scmp_any (a b : ByteArray) (w : World) : Calls Tryz.prog 68 #[.string a, .string b] w fun e w' => e = .returned (.int .i64 (Lib.compareBytes a.data.toList b.data.toList)) ∧ w' = w := by
  go_enter Tryz.func68, Tryz.ntmps68
  go_wp2_with (go_at_call 98; refine (cmpStr_any _ _ _).mono ?_; rintro e w' ⟨rfl, rfl⟩)
  go_ret
  exact ⟨rfl, rfl⟩
theorem or3_a {x : Int} (y z : Int) (h : ¬ x = 0) : or3 x y z = x := by unfold or3; rw [if_neg h]
theorem or3_b {x y : Int} (z : Int) (h : x = 0) (h2 : ¬ y = 0) : or3 x y z = y := by unfold or3; rw [if_pos h, if_neg h2]
theorem or3_c {x y : Int} (z : Int) (h : x = 0) (h2 : y = 0) : or3 x y z = z := by unfold or3; rw [if_pos h, if_pos h2]
def OrAt (x y z : Int) (w wr : World) (i : Value) : Prop := wr = w ∧ ((i = .int .i64 0) ∨ (i = .int .i64 1 ∧ x = 0) ∨ (i = .int .i64 2 ∧ x = 0 ∧ y = 0) ∨ (i = .int .i64 3 ∧ x = 0 ∧ y = 0 ∧ z = 0))
set_option maxHeartbeats 1000000 in
theorem or_any (b : Nat) (x y z : Int) (w : World) (c0 : w.cell? ⟨b, 0, none⟩ = some (.int .i64 x)) (c1 : w.cell? ⟨b, 1, none⟩ = some (.int .i64 y)) (c2 : w.cell? ⟨b, 2, none⟩ = some (.int .i64 z)) :
    Calls Tryz.prog 179 #[.slice (some ⟨b, 0, none⟩) 3 3] w fun e w' => e = .returned (.int .i64 (or3 x y z)) ∧ w' = w := by
  go_enter Tryz.func179, Tryz.ntmps179
  go_wp2
  go_loopw [8] (fun i wr => OrAt x y z w wr i) (fun i _ => 3 - (intOf i).toNat)
  case atStart => exact ⟨rfl, .inl rfl⟩
  case round =>
    obtain ⟨rfl, rfl | ⟨rfl, h1⟩ | ⟨rfl, h1, h2⟩ | ⟨rfl, h1, h2, h3⟩⟩ := hrel
    · by_cases h : x = 0
      · subst h
        go_wp2
        go_roundw
        case rel => exact ⟨rfl, .inr (.inl ⟨rfl, rfl⟩)⟩
        case measure => simp [intOf]
      · have H : Hid (¬ x = 0) := h
        go_wp2
        go_ret
        exact ⟨ret_v (congrArg (Value.int .i64) (or3_a y z H.out).symm), rfl⟩
    · subst h1
      by_cases h : y = 0
      · subst h
        go_wp2
        go_roundw
        case rel => exact ⟨rfl, .inr (.inr (.inl ⟨rfl, rfl, rfl⟩))⟩
        case measure => simp [intOf]
      · have H : Hid (¬ y = 0) := h
        go_wp2
        go_ret
        exact ⟨ret_v (congrArg (Value.int .i64) (or3_b z rfl H.out).symm), rfl⟩
    · subst h1 h2
      by_cases h : z = 0
      · subst h
        go_wp2
        go_roundw
        case rel => exact ⟨rfl, .inr (.inr (.inr ⟨rfl, rfl, rfl, rfl⟩))⟩
        case measure => simp [intOf]
      · go_wp2
        go_ret
        exact ⟨ret_v (congrArg (Value.int .i64) (or3_c z rfl rfl).symm), rfl⟩
    · subst h1 h2 h3
      go_wp2
      go_ret
      exact ⟨ret_v (congrArg (Value.int .i64) (or3_c 0 rfl rfl).symm), rfl⟩
theorem b_drew {B : Nat} {a w : World} (h : Below B a w) : Below B a w.drew := ⟨h.os, h.tape, h.output, h.size, h.block⟩
theorem cell_lit3 (w : World) (x y z : Int) : (w.alloc (.cells #[.int .i64 x, .int .i64 y, .int .i64 z] 3)).drew.cell? ⟨w.heap.size, 0, none⟩ = some (.int .i64 x) ∧ (w.alloc (.cells #[.int .i64 x, .int .i64 y, .int .i64 z] 3)).drew.cell? ⟨w.heap.size, 1, none⟩ = some (.int .i64 y) ∧ (w.alloc (.cells #[.int .i64 x, .int .i64 y, .int .i64 z] 3)).drew.cell? ⟨w.heap.size, 2, none⟩ = some (.int .i64 z) := by
  refine ⟨?_, ?_, ?_⟩ <;> simp
theorem or_at (w : World) (A B : Obj) (x y z : Int) :
    Calls Tryz.prog 179 #[.slice (some ⟨w.heap.size + 1 + 1, 0, none⟩) 3 3] (((w.alloc A).alloc B).alloc (.cells #[.int .i64 x, .int .i64 y, .int .i64 z] 3)).drew fun e w' => e = .returned (.int .i64 (or3 x y z)) ∧ w' = (((w.alloc A).alloc B).alloc (.cells #[.int .i64 x, .int .i64 y, .int .i64 z] 3)).drew := by
  have hs : ((w.alloc A).alloc B).heap.size = w.heap.size + 1 + 1 := by simp
  have h := cell_lit3 ((w.alloc A).alloc B) x y z
  rw [hs] at h
  exact or_any _ x y z _ h.1 h.2.1 h.2.2
set_option maxHeartbeats 4000000 in
set_option maxRecDepth 100000 in
theorem cmpT_any (s t : Te) (w : World) :
    Calls Tryz.prog 142 #[s.one, t.one] w fun e w' => e = .returned (.int .i64 (tCmp s t)) ∧ Below w.heap.size w w' := by
  obtain ⟨sb, sf, st⟩ := s
  obtain ⟨tb, tf, tt⟩ := t
  have hB : Below w.heap.size w ((w.alloc (.cells #[.string sb, .int .i64 sf, .int .i64 st] 46)).alloc (.cells #[.string tb, .int .i64 tf, .int .i64 tt] 46)) := b_alloc (b_alloc (Below.refl _ _) _) _
  go_enter Tryz.func142, Tryz.ntmps142
  go_wp2_with fail
  go_region_held3 (fun w' => w'.cell? ⟨w.heap.size, 0, none⟩ = some (.string sb) ∧ w'.cell? ⟨w.heap.size, 1, none⟩ = some (.int .i64 sf) ∧ w'.cell? ⟨w.heap.size, 2, none⟩ = some (.int .i64 st) ∧ w'.cell? ⟨w.heap.size + 1, 0, none⟩ = some (.string tb) ∧ w'.cell? ⟨w.heap.size + 1, 1, none⟩ = some (.int .i64 tf) ∧ w'.cell? ⟨w.heap.size + 1, 2, none⟩ = some (.int .i64 tt)) (go_keep) (first | (go_at_call 68; refine (scmp_any _ _ _).mono ?_; rintro e w' ⟨rfl, rfl⟩) | (go_at_call 180; refine (cmp_any _ _ _).mono ?_; rintro e w' ⟨rfl, rfl⟩) | (go_at_call 179; refine (or_at _ _ _ _ _ _).mono ?_; rintro e w' ⟨rfl, rfl⟩))
  all_goals
    go_wp2
    go_ret
    exact ⟨rfl, b_drew (b_alloc hB _)⟩
theorem on1 {W0 W W' : World} (hK : Below W0.heap.size W0 W) (hb : Below W.heap.size W W') : Below W0.heap.size W0 W' := hK.trans (hb.mono hK.size)
theorem ndE_id {o : Option Nd} {n : Nd} (h : idOk n.id = false) : ndE o n = 1 := by unfold ndE; rw [h]; rfl
theorem ndE_low {o : Option Nd} {n : Nd} (h : idOk n.id = true) (h2 : n.low o = true) : ndE o n = 7 := by unfold ndE; rw [if_pos h, if_pos h2]
theorem ndE_name {o : Option Nd} {n : Nd} (h : idOk n.id = true) (h2 : n.low o = false) (h3 : ¬ nErr n.kd.data.toList = 0) : ndE o n = nErr n.kd.data.toList := by unfold ndE; rw [if_pos h, h2, if_neg Bool.false_ne_true, if_neg h3]
theorem ndE_rec {o : Option Nd} {n : Nd} (h : idOk n.id = true) (h2 : n.low o = false) (h3 : nErr n.kd.data.toList = 0) : ndE o n = rErr n.rc := by unfold ndE; rw [if_pos h, h2, if_neg Bool.false_ne_true, if_pos h3]
set_option maxHeartbeats 4000000 in
set_option maxRecDepth 100000 in
theorem checkNode_first (ao : Option Addr) (c : Nat) (n : Nd) (w : World) (hR : IsR w n.rv n.rc) (z1 : n.kd.size ≤ maxLen) (z2 : Sz n.rc) (z3 : n.rc.length ≤ maxLen) :
    Calls Tryz.prog 107 #[.slice ao 0 c, n.one] w fun e w' => e = .returned (errV (ndE none n)) ∧ Below w.heap.size w w' := by
  have hB : Below w.heap.size w (w.alloc (.cells #[.int .i64 n.id, .string n.kd, n.rv] 40)) := b_alloc (Below.refl _ _) _
  have ci := fun w => isId_any n.id w
  have nm := fun w => name_any n.kd w z1
  have rc := fun i => rcheck_r (hR.on (b_drewN hB i)) z2 z3
  obtain ⟨av, cv, hv, _⟩ := hR
  by_cases h1 : idOk n.id = true
  · rw [h1] at ci
    by_cases h3 : nErr n.kd.data.toList = 0
    · have H : Hid (ndE none n = rErr n.rc) := ndE_rec h1 rfl h3
      rw [h3, errV_0] at nm
      clear h1 h3
      obtain ⟨id, kd, rv, rc0⟩ := n
      simp only at hv H nm ci rc hB ⊢
      subst hv
      go_enter Tryz.func107, Tryz.ntmps107
      go_wp2_with (first | (go_at_call 140; refine (ci _).mono ?_; rintro e w' ⟨rfl, rfl⟩))
      go_quiet (fail)
      go_wp2_with (first | (go_at_call 25; refine (nm _).mono ?_; rintro e w' ⟨rfl, rfl⟩) | (go_at_call 141; refine (rc _).mono ?_; rintro e w' ⟨rfl, hB2⟩))
      go_ret
      exact ⟨ret_v (congrArg errV H.out.symm), on1 (b_drewN hB _) hB2⟩
    · have H : Hid (ndE none n = nErr n.kd.data.toList) := ndE_name h1 rfl h3
      rw [errV_ne h3] at nm
      have H3 : Hid (errV (ndE none n) = .iface 76 (.int .i64 (nErr n.kd.data.toList))) := by
        show _ = _
        rw [H.out, errV_ne h3]
      clear h1 h3 H rc
      obtain ⟨id, kd, rv, rc0⟩ := n
      simp only at hv H3 nm ci hB ⊢
      subst hv
      go_enter Tryz.func107, Tryz.ntmps107
      go_wp2_with (first | (go_at_call 140; refine (ci _).mono ?_; rintro e w' ⟨rfl, rfl⟩))
      go_quiet (fail)
      go_wp2_with (first | (go_at_call 25; refine (nm _).mono ?_; rintro e w' ⟨rfl, rfl⟩))
      go_ret
      exact ⟨ret_v H3.out.symm, b_drewN hB _⟩
  · have h1' : idOk n.id = false := by simpa using h1
    have H3 : Hid (errV (ndE none n) = .iface 76 (.int .i64 1)) := by
      show _ = _
      rw [ndE_id h1', errV_1]
    rw [h1'] at ci
    clear h1 h1' rc nm
    obtain ⟨id, kd, rv, rc0⟩ := n
    simp only at hv H3 ci hB ⊢
    subst hv
    go_enter Tryz.func107, Tryz.ntmps107
    go_wp2_with (first | (go_at_call 140; refine (ci _).mono ?_; rintro e w' ⟨rfl, rfl⟩))
    go_ret
    exact ⟨ret_v H3.out.symm, hB⟩
set_option maxHeartbeats 4000000 in
set_option maxRecDepth 100000 in
theorem checkNode_next (b off k c : Nat) (q n : Nd) (w : World) (hb : b < w.heap.size) (hk : k ≤ 60) (hq : w.cell? ⟨b, off + k * 3, none⟩ = some (.int .i64 q.id)) (hR : IsR w n.rv n.rc) (z1 : n.kd.size ≤ maxLen) (z2 : Sz n.rc) (z3 : n.rc.length ≤ maxLen) :
    Calls Tryz.prog 107 #[.slice (some ⟨b, off, none⟩) (k + 1) c, n.one] w fun e w' => e = .returned (errV (ndE (some q) n)) ∧ Below w.heap.size w w' := by
  have hB : Below w.heap.size w (w.alloc (.cells #[.int .i64 n.id, .string n.kd, n.rv] 40)) := b_alloc (Below.refl _ _) _
  have ci := fun w => isId_any n.id w
  have nm := fun w => name_any n.kd w z1
  have rc := fun i => rcheck_r (hR.on (b_drewN hB i)) z2 z3
  obtain ⟨av, cv, hv, _⟩ := hR
  have hq' := (hB.cell (p := ⟨b, off + k * 3, none⟩) hb).trans hq
  have hbn : ¬ b = w.heap.size := by omega
  have hw1 : IntKind.i64.wrap ((k : Int) + 1 - 1) = (k : Int) := by rw [IntKind.wrap_i64]; omega
  have hi1 : (k : Int) < ((k : Int) + 1) := by omega
  have hg : (0 : Int) < ((k : Int) + 1) := by omega
  clear hq
  obtain ⟨qi, qk, qv, qr⟩ := q
  simp only at hq'
  by_cases h1 : idOk n.id = true
  · rw [h1] at ci
    by_cases h2 : n.id ≤ qi
    · have H3 : Hid (errV (ndE (some ⟨qi, qk, qv, qr⟩) n) = .iface 76 (.int .i64 7)) := by
        show _ = _
        rw [ndE_low h1 (by unfold Nd.low; simpa using h2), errV_7]
      clear h1 rc nm
      obtain ⟨id, kd, rv, rc0⟩ := n
      simp only at hv H3 ci hB hq' h2 ⊢
      subst hv
      go_enter Tryz.func107, Tryz.ntmps107
      go_wp2_with (first | (go_at_call 140; refine (ci _).mono ?_; rintro e w' ⟨rfl, rfl⟩))
      go_quiet (fail)
      go_wp2
      go_ret
      exact ⟨ret_v H3.out.symm, b_drewN hB _⟩
    have h2' : ∀ r s t, n.low (some ⟨qi, r, s, t⟩) = false := fun _ _ _ => by unfold Nd.low; simpa using h2
    by_cases h3 : nErr n.kd.data.toList = 0
    · have H : Hid (ndE (some ⟨qi, qk, qv, qr⟩) n = rErr n.rc) := ndE_rec h1 (h2' _ _ _) h3
      rw [h3, errV_0] at nm
      clear h1 h3 h2'
      obtain ⟨id, kd, rv, rc0⟩ := n
      simp only at hv H nm ci rc hB hq' h2 ⊢
      subst hv
      go_enter Tryz.func107, Tryz.ntmps107
      go_wp2_with (first | (go_at_call 140; refine (ci _).mono ?_; rintro e w' ⟨rfl, rfl⟩))
      go_quiet (fail)
      go_wp2_with (first | (go_at_call 25; refine (nm _).mono ?_; rintro e w' ⟨rfl, rfl⟩) | (go_at_call 141; refine (rc _).mono ?_; rintro e w' ⟨rfl, hB2⟩))
      go_ret
      exact ⟨ret_v (congrArg errV H.out.symm), on1 (b_drewN hB _) hB2⟩
    · have H : Hid (ndE (some ⟨qi, qk, qv, qr⟩) n = nErr n.kd.data.toList) := ndE_name h1 (h2' _ _ _) h3
      rw [errV_ne h3] at nm
      have H3 : Hid (errV (ndE (some ⟨qi, qk, qv, qr⟩) n) = .iface 76 (.int .i64 (nErr n.kd.data.toList))) := by
        show _ = _
        rw [H.out, errV_ne h3]
      clear h1 h3 H rc h2'
      obtain ⟨id, kd, rv, rc0⟩ := n
      simp only at hv H3 nm ci hB hq' h2 ⊢
      subst hv
      go_enter Tryz.func107, Tryz.ntmps107
      go_wp2_with (first | (go_at_call 140; refine (ci _).mono ?_; rintro e w' ⟨rfl, rfl⟩))
      go_quiet (fail)
      go_wp2_with (first | (go_at_call 25; refine (nm _).mono ?_; rintro e w' ⟨rfl, rfl⟩))
      go_ret
      exact ⟨ret_v H3.out.symm, b_drewN hB _⟩
  · have h1' : idOk n.id = false := by simpa using h1
    have H3 : Hid (errV (ndE (some ⟨qi, qk, qv, qr⟩) n) = .iface 76 (.int .i64 1)) := by
      show _ = _
      rw [ndE_id h1', errV_1]
    rw [h1'] at ci
    clear h1 h1' rc nm
    obtain ⟨id, kd, rv, rc0⟩ := n
    simp only at hv H3 ci hB hq' ⊢
    subst hv
    go_enter Tryz.func107, Tryz.ntmps107
    go_wp2_with (first | (go_at_call 140; refine (ci _).mono ?_; rintro e w' ⟨rfl, rfl⟩))
    go_ret
    exact ⟨ret_v H3.out.symm, hB⟩
end Go.Proofs.YtahamkajkkkjdaaGreatDoor
