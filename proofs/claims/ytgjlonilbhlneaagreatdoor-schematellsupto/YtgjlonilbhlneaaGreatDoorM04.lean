/-
  The walks of kind.checkOf and kind.checkFields.
-/
import Derived.Test.YtgjlonilbhlneaaGreatDoorM03
import Derived.Laws.Externs
namespace Go.Proofs.YtgjlonilbhlneaaGreatDoor
open Go.RowKit
set_option linter.unusedVariables false
set_option linter.unusedSimpArgs false

theorem b_drewN {B : Nat} {a w : World} (h : Below B a w) : ∀ n, Below B a (w.drewN n) := fun n => ⟨h.os, h.tape, h.output, h.size, h.block⟩
theorem isS_take {w : World} {b off cap k : Nat} {l : List Nm} (hb : b < w.heap.size) (hm : cap ≤ maxLen) (hc : l.length ≤ cap) (hk : k ≤ l.length) (h : LiesS w b off l) : IsS w (.slice (some ⟨b, off, none⟩) k cap) (l.take k) :=
  .inr ⟨b, off, cap, by rw [List.length_take_of_le hk], by rw [List.length_take_of_le hk]; omega, hm, hb, h.take k⟩
set_option maxHeartbeats 4000000 in
set_option maxRecDepth 100000 in
theorem checkOf_some (va : Value) (A : List Kd) (b off cap : Nat) (l : List Nm) (w : World) (hA : IsK w va A) (hA12 : A.length ≤ 12) (hb : b < w.heap.size) (hL : LiesS w b off l) (hm : cap ≤ maxLen) (hc : l.length ≤ cap) (hn : l.length ≤ 4) :
    Calls Tryz.prog 68 #[va, .slice (some ⟨b, off, none⟩) l.length cap] w fun e w' => e = .returned (errV (oChk A [] l)) ∧ Below w.heap.size w w' := by
  have HA : Hid (IsK w va A ∧ A.length ≤ 12) := ⟨hA, hA12⟩
  clear hA hA12
  unfold maxLen at hm
  go_enter Tryz.func68, Tryz.ntmps68
  go_wp2
  go_loopw [9] (fun i wr => ∃ k : Nat, k ≤ l.length ∧ i = .int .i64 k ∧ oChk A [] l = oChk A (l.take k) (l.drop k) ∧ Below w.heap.size w wr) (fun i _ => l.length - (intOf i).toNat)
  case atStart => exact ⟨0, Nat.zero_le _, rfl, rfl, Below.refl _ _⟩
  case round =>
    obtain ⟨k, hk, rfl, hi, hB⟩ := hrel
    have HI : Hid (oChk A [] l = oChk A (l.take k) (l.drop k)) := hi
    clear hi
    by_cases hlt : k < l.length
    · obtain ⟨p, hp⟩ : ∃ p, l[k]? = some p := ⟨l[k], by simp [hlt]⟩
      have d0 := (hB.cell (p := ⟨b, off + k, none⟩) hb).trans (hL k p hp)
      have HD : Hid (l.drop k = p :: l.drop (k + 1) ∧ l.take (k + 1) = l.take k ++ [p]) := ⟨dropK hp, takeK hp⟩
      have c1 := index_any (HA.out.1.on hB) HA.out.2 p
      have HZ : Hid (LiesS w b off l) := hL
      clear hp hL
      rcases idxK_spec p A 0 with hx | ⟨j, q, hx, _, _⟩
      · have H : Hid (oChk A [] l = 5) := by
          show _ = _
          rw [HI.out, HD.out.1]; unfold oChk; rw [if_pos hx]
        rw [hx] at c1
        clear HI HD hx
        go_wp2_with (go_at_call 67; refine c1.mono ?_; rintro e w' ⟨rfl, hB1⟩)
        go_ret
        exact ⟨ret_v (by rw [H.out]; rfl), on1 hB hB1 (Nat.le_refl _)⟩
      · have hne : ¬ idxK p A 0 = -1 := by omega
        rw [hx] at c1
        clear hx
        simp only [Nat.zero_add] at c1
        have cn := fun (w2 : World) (h2 : IsS w2 (.slice (some ⟨b, off, none⟩) k cap) (l.take k)) => contains_any h2 (by simp; omega) p
        have HT : Hid (∀ w2, Below w.heap.size w w2 → IsS w2 (.slice (some ⟨b, off, none⟩) k cap) (l.take k)) := fun w2 h2 => isS_take (Nat.lt_of_lt_of_le hb h2.size) (by unfold maxLen; omega) hc (by omega) (HZ.out.on hb h2)
        cases hq : hasN (l.take k) p with
        | true =>
          have H : Hid (oChk A [] l = 7) := by
            show _ = _
            rw [HI.out, HD.out.1]; unfold oChk; rw [if_neg hne, if_pos hq]
          rw [hq] at cn
          clear HI HD hne hq
          go_wp2_with (go_at_call 67; refine c1.mono ?_; rintro e W1 ⟨rfl, hB1⟩; refine Hid.out ?_)
          refine Lib.hid ?_
          have hB2 := on1 hB hB1 (Nat.le_refl _)
          have c2 := cn W1 (HT.out W1 hB2)
          clear cn c1
          go_wp2_with (go_at_call 42; refine c2.mono ?_; rintro e W2 ⟨rfl, rfl⟩)
          go_ret
          exact ⟨ret_v (by rw [H.out]; rfl), hB2⟩
        | false =>
          have H : Hid (oChk A [] l = oChk A (l.take (k + 1)) (l.drop (k + 1))) := by
            show _ = _
            rw [HI.out, HD.out.1, HD.out.2]
            conv => lhs; unfold oChk
            rw [if_neg hne, if_neg (by rw [hq]; decide)]
          rw [hq] at cn
          clear HI HD hne hq
          go_wp2_with (go_at_call 67; refine c1.mono ?_; rintro e W1 ⟨rfl, hB1⟩; refine Hid.out ?_)
          refine Lib.hid ?_
          have hB2 := on1 hB hB1 (Nat.le_refl _)
          have c2 := cn W1 (HT.out W1 hB2)
          clear cn c1
          go_wp2_with (go_at_call 42; refine c2.mono ?_; rintro e W2 ⟨rfl, rfl⟩)
          go_roundw
          case rel => exact ⟨k + 1, by omega, by go_num, H.out, hB2⟩
          case measure => simp [intOf]; omega
    · have hd : l.drop k = [] := List.drop_eq_nil_of_le (by omega)
      have H : Hid (oChk A [] l = 0) := by
        show _ = _
        rw [HI.out, hd]; rfl
      clear HI hd hL
      go_wp2
      go_ret
      exact ⟨ret_v (by rw [H.out]; rfl), hB⟩
set_option maxHeartbeats 1000000 in
theorem checkOf_nil (va : Value) (ao : Option Addr) (c : Nat) (w : World) : Calls Tryz.prog 68 #[va, .slice ao 0 c] w fun e w' => e = .returned .nilIface ∧ Below w.heap.size w w' := by
  go_enter Tryz.func68, Tryz.ntmps68
  go_wp2
  go_loopw [9] (fun i wr => i = .int .i64 0 ∧ wr = w) (fun i _ => 0)
  case atStart => exact ⟨rfl, rfl⟩
  case round =>
    obtain ⟨rfl, rfl⟩ := hrel
    go_wp2
    go_ret
    exact ⟨rfl, Below.refl _ _⟩
theorem checkOf_any {va vo : Value} {A : List Kd} {l : List Nm} {w : World} (hA : IsK w va A) (hA12 : A.length ≤ 12) (h : IsS w vo l) (hn : l.length ≤ 4) :
    Calls Tryz.prog 68 #[va, vo] w fun e w' => e = .returned (errV (oChk A [] l)) ∧ Below w.heap.size w w' := by
  rcases h with ⟨ao, c, rfl, rfl, _⟩ | ⟨b, off, cap, rfl, hcap, hm, hb, hl⟩
  · exact checkOf_nil va ao c w
  · exact checkOf_some va A b off cap l w hA hA12 hb hl hm hcap hn

def prvF (L : List Fd) (k : Nat) : Option Fd := if k = 0 then none else L[k - 1]?
theorem prvF_s {L : List Fd} {k : Nat} {q : Fd} (h : L[k]? = some q) : prvF L (k + 1) = some q := by unfold prvF; rw [if_neg (by omega)]; simpa using h
theorem fChk_step {o : Option Fd} {f : Fd} {r : List Fd} (h : fBad o f = 0) : fChk o (f :: r) = fChk (some f) r := by
  conv => lhs; unfold fChk
  rw [if_pos h]
theorem fChk_stop {o : Option Fd} {f : Fd} {r : List Fd} (h : ¬ fBad o f = 0) : fChk o (f :: r) = fBad o f := by
  conv => lhs; unfold fChk
  rw [if_neg h]

set_option maxHeartbeats 16000000 in
set_option maxRecDepth 100000 in
theorem checkFields_some (b off cap : Nat) (L : List Fd) (w : World) (hb : b < w.heap.size) (hL : LiesF w b off L) (hs : ∀ f ∈ L, f.nm.length ≤ maxLen) (hn : L.length ≤ 8) :
    Calls Tryz.prog 69 #[.slice (some ⟨b, off, none⟩) L.length cap] w fun e w' => e = .returned (errV (fChk none L)) ∧ Below w.heap.size w w' := by
  go_enter Tryz.func69, Tryz.ntmps69
  go_wp2
  go_loopw [8] (fun i wr => ∃ k : Nat, k ≤ L.length ∧ i = .int .i64 k ∧ fChk none L = fChk (prvF L k) (L.drop k) ∧ Below w.heap.size w wr) (fun i _ => L.length - (intOf i).toNat)
  case atStart => exact ⟨0, Nat.zero_le _, rfl, rfl, Below.refl _ _⟩
  case round =>
    obtain ⟨k, hk, rfl, hc, hB⟩ := hrel
    have HC : Hid (fChk none L = fChk (prvF L k) (L.drop k)) := hc
    clear hc
    by_cases hlt : k < L.length
    · obtain ⟨p, hp⟩ : ∃ p, L[k]? = some p := ⟨L[k], by simp [hlt]⟩
      obtain ⟨c0, c1, c2, c3⟩ := hL k p hp
      have z1 := hs p (List.mem_of_getElem? hp)
      obtain ⟨f, t, must, key⟩ := p
      simp only at c0 c1 c2 c3 z1
      have d0 := (hB.cell (p := ⟨b, off + k * 4, none⟩) hb).trans c0
      have d1 := (hB.cell (p := ⟨b, off + k * 4 + 1, none⟩) hb).trans c1
      have d2 := (hB.cell (p := ⟨b, off + k * 4 + 2, none⟩) hb).trans c2
      have d3 := (hB.cell (p := ⟨b, off + k * 4 + 3, none⟩) hb).trans c3
      have HP : Hid (L[k]? = some ⟨f, t, must, key⟩) := hp
      have HD : Hid (L.drop k = ⟨f, t, must, key⟩ :: L.drop (k + 1)) := dropK hp
      have hbr : b < wr.heap.size := Nat.lt_of_lt_of_le hb hB.size
      have hbn : ¬ b = wr.heap.size := by omega
      have nm := fun w => name_any (bs f) w (by rw [bs_size]; exact z1)
      simp only [bs_data] at nm
      have HZ : Hid (L.length ≤ 8 ∧ LiesF w b off L) := ⟨hn, hL⟩
      clear c0 c1 c2 c3 hp hs hL z1
      by_cases h1 : nErr f = 0
      · have nm' : ∀ w, Calls Tryz.prog 45 #[.string (bs f)] w fun e w' => e = .returned .nilIface ∧ w' = w := fun w => by
          have := nm w; rw [h1] at this; exact this
        clear nm
        by_cases ht : t = 1 ∨ t = 2 ∨ t = 3
        · by_cases hkm : (key && !must) = true
          · have H : Hid (errV (fChk none L) = .iface 60 (.int .i64 3)) := by
              have hbad : fBad (prvF L k) ⟨f, t, must, key⟩ = 3 := by unfold fBad; rw [if_pos h1, if_pos ht, if_pos hkm]
              show _ = _
              rw [HC.out, HD.out, fChk_stop (by rw [hbad]; decide), hbad]; rfl
            have hk1 : key = true ∧ must = false := by simpa using hkm
            obtain ⟨rfl, rfl⟩ := hk1
            clear HC HD HP HZ h1 hkm
            rcases ht with rfl | rfl | rfl
            all_goals
              go_wp2_with (go_at_call 45; refine (nm' _).mono ?_; rintro e w' ⟨rfl, rfl⟩)
              go_ret
              exact ⟨ret_v H.out.symm, b_alloc hB (Nat.le_refl _) _⟩
          · have hk1 : (key = false) ∨ (key = true ∧ must = true) := by
              cases key <;> cases must <;> simp_all
            by_cases hk0 : k = 0
            · subst hk0
              have hstep : Hid (fChk none L = fChk (prvF L (0 + 1)) (L.drop (0 + 1))) := by
                have hbad : fBad (prvF L 0) ⟨f, t, must, key⟩ = 0 := by unfold fBad; rw [if_pos h1, if_pos ht, if_neg hkm]; rfl
                show _ = _
                have := HC.out; rw [HD.out, fChk_step hbad] at this
                rw [this, prvF_s HP.out]
              clear HC HD HP HZ h1 hkm
              simp only [Nat.zero_mul, Nat.add_zero] at d0 d1 d2 d3
              rcases hk1 with rfl | ⟨rfl, rfl⟩
              all_goals
                rcases ht with rfl | rfl | rfl
                all_goals
                  go_wp2_with (go_at_call 45; refine (nm' _).mono ?_; rintro e w' ⟨rfl, rfl⟩)
                  go_quiet (fail)
                  go_wp2
                  go_roundw
                  case rel => exact ⟨0 + 1, by omega, by go_num, hstep.out, b_drewN (b_alloc hB (Nat.le_refl _) _) _⟩
                  case measure => simp [intOf]; omega
            · obtain ⟨q, hq⟩ : ∃ q, L[k - 1]? = some q := ⟨L[k - 1], by simp⟩
              have hprv : prvF L k = some q := by unfold prvF; rw [if_neg hk0]; exact hq
              obtain ⟨c0, _⟩ := HZ.out.2 (k - 1) q hq
              have e0 := (hB.cell (p := ⟨b, off + (k - 1) * 4, none⟩) hb).trans c0
              have hw1 : IntKind.i64.wrap ((k - 1 : Nat) : Int) = ((k - 1 : Nat) : Int) := by rw [IntKind.wrap_i64]; omega
              have hb1 : ((k - 1 : Nat) : Int) < (L.length : Int) := by omega
              have hg : 0 < k := by omega
              have hcast : (k : Int) - 1 = ((k - 1 : Nat) : Int) := by omega
              clear c0 hq
              cases h3 : (Op.bytesLess f q.nm || f == q.nm) with
              | true =>
                have H : Hid (errV (fChk none L) = .iface 60 (.int .i64 7)) := by
                  have hbad : fBad (prvF L k) ⟨f, t, must, key⟩ = 7 := by unfold fBad; rw [if_pos h1, if_pos ht, if_neg hkm, hprv]; simp only; rw [if_pos h3]
                  show _ = _
                  rw [HC.out, HD.out, fChk_stop (by rw [hbad]; decide), hbad]; rfl
                have h4 : (Op.bytesLess f q.nm = true) ∨ (Op.bytesLess f q.nm = false ∧ (f == q.nm) = true) := by
                  cases h5 : Op.bytesLess f q.nm
                  · right; rw [h5, Bool.false_or] at h3; exact ⟨rfl, h3⟩
                  · left; rfl
                clear HC HD HP HZ h1 hkm hprv h3
                rcases hk1 with rfl | ⟨rfl, rfl⟩
                all_goals
                  rcases ht with rfl | rfl | rfl
                  all_goals
                    rcases h4 with h4 | ⟨h4, h5⟩
                    all_goals
                      go_wp2_with (go_at_call 45; refine (nm' _).mono ?_; rintro e w' ⟨rfl, rfl⟩)
                      go_quiet (fail)
                      go_wp2
                      go_ret
                      exact ⟨ret_v H.out.symm, b_drewN (b_alloc hB (Nat.le_refl _) _) _⟩
              | false =>
                have hstep : Hid (fChk none L = fChk (prvF L (k + 1)) (L.drop (k + 1))) := by
                  have hbad : fBad (prvF L k) ⟨f, t, must, key⟩ = 0 := by unfold fBad; rw [if_pos h1, if_pos ht, if_neg hkm, hprv]; simp only; rw [if_neg (by rw [h3]; decide)]
                  show _ = _
                  have := HC.out; rw [HD.out, fChk_step hbad] at this
                  rw [this, prvF_s HP.out]
                obtain ⟨h4, h5⟩ := (Bool.or_eq_false_iff).1 h3
                clear HC HD HP HZ h1 hkm hprv h3
                rcases hk1 with rfl | ⟨rfl, rfl⟩
                all_goals
                  rcases ht with rfl | rfl | rfl
                  all_goals
                    go_wp2_with (go_at_call 45; refine (nm' _).mono ?_; rintro e w' ⟨rfl, rfl⟩)
                    go_quiet (fail)
                    go_wp2
                    go_roundw
                    case rel => exact ⟨k + 1, by omega, by go_num, hstep.out, b_drewN (b_alloc hB (Nat.le_refl _) _) _⟩
                    case measure => simp [intOf]; omega
        · have H : Hid (errV (fChk none L) = .iface 60 (.int .i64 8)) := by
            have hbad : fBad (prvF L k) ⟨f, t, must, key⟩ = 8 := by unfold fBad; rw [if_pos h1, if_neg ht]
            show _ = _
            rw [HC.out, HD.out, fChk_stop (by rw [hbad]; decide), hbad]; rfl
          have b1 : (t != 1) = true := by simp; omega
          have b2 : (t != 2) = true := by simp; omega
          have b3 : (t != 3) = true := by simp; omega
          clear HC HD HP HZ h1 ht
          go_wp2_with (go_at_call 45; refine (nm' _).mono ?_; rintro e w' ⟨rfl, rfl⟩)
          go_ret
          exact ⟨ret_v H.out.symm, b_alloc hB (Nat.le_refl _) _⟩
      · have nm' : ∀ w, Calls Tryz.prog 45 #[.string (bs f)] w fun e w' => e = .returned (.iface 60 (.int .i64 (nErr f))) ∧ w' = w := fun w => by
          have := nm w; rw [errV_ne h1] at this; exact this
        have H : Hid (errV (fChk none L) = .iface 60 (.int .i64 (nErr f))) := by
          have hbad : fBad (prvF L k) ⟨f, t, must, key⟩ = nErr f := by unfold fBad; rw [if_neg h1]
          show _ = _
          rw [HC.out, HD.out, fChk_stop (by rw [hbad]; exact h1), hbad, errV_ne h1]
        clear HC HD HP HZ nm h1
        go_wp2_with (go_at_call 45; refine (nm' _).mono ?_; rintro e w' ⟨rfl, rfl⟩)
        go_ret
        exact ⟨ret_v H.out.symm, b_alloc hB (Nat.le_refl _) _⟩
    · have hd : L.drop k = [] := List.drop_eq_nil_of_le (by omega)
      have H : Hid (errV (fChk none L) = .nilIface) := by
        show _ = _
        rw [HC.out, hd]; cases prvF L k <;> rfl
      clear HC hd
      go_wp2
      go_ret
      exact ⟨ret_v H.out.symm, hB⟩
set_option maxHeartbeats 1000000 in
theorem checkFields_nil (ao : Option Addr) (c : Nat) (w : World) : Calls Tryz.prog 69 #[.slice ao 0 c] w fun e w' => e = .returned .nilIface ∧ Below w.heap.size w w' := by
  go_enter Tryz.func69, Tryz.ntmps69
  go_wp2
  go_loopw [8] (fun i wr => i = .int .i64 0 ∧ wr = w) (fun i _ => 0)
  case atStart => exact ⟨rfl, rfl⟩
  case round =>
    obtain ⟨rfl, rfl⟩ := hrel
    go_wp2
    go_ret
    exact ⟨rfl, Below.refl _ _⟩
theorem checkFields_any {v : Value} {l : List Fd} {w : World} (h : IsF w v l) (hs : ∀ f ∈ l, f.nm.length ≤ maxLen) (hn : l.length ≤ 8) :
    Calls Tryz.prog 69 #[v] w fun e w' => e = .returned (errV (fChk none l)) ∧ Below w.heap.size w w' := by
  rcases h with ⟨ao, c, rfl, rfl, _⟩ | ⟨b, off, cap, rfl, hcap, hm, hb, hl⟩
  · exact checkFields_nil ao c w
  · exact checkFields_some b off cap l w hb hl hs hn
end Go.Proofs.YtgjlonilbhlneaaGreatDoor

/-
  The walks of strings.Compare, of the comparison of two fields, and of slices.BinarySearchFunc with it.
-/
namespace Go.Proofs.YtgjlonilbhlneaaGreatDoor
open Go.RowKit
set_option linter.unusedVariables false
set_option linter.unusedSimpArgs false

set_option maxHeartbeats 1000000 in
set_option maxRecDepth 100000 in
theorem cmpString_any (a b : ByteArray) (w : World) :
    Calls Tryz.prog 112 #[.string a, .string b] w fun e w' => e = .returned (.int .i64 (Lib.compareBytes a.data.toList b.data.toList)) ∧ w' = w := by
  go_enter Tryz.func112, Tryz.ntmps112
  go_wp2
  rw [run_callFunc_extern Tryz.func130 (by kernel_rfl) (by kernel_rfl) (by kernel_rfl) (e := Extern.BytealgCompare.compare) (by kernel_rfl), Lib.run_compareString]
  simp only [Result.andThen]
  rw [Oper.upon_value]
  go_wp2
  go_ret
  exact ⟨rfl, rfl⟩
set_option maxHeartbeats 1000000 in
theorem compare_any (a b : ByteArray) (w : World) :
    Calls Tryz.prog 93 #[.string a, .string b] w fun e w' => e = .returned (.int .i64 (Lib.compareBytes a.data.toList b.data.toList)) ∧ w' = w := by
  go_enter Tryz.func93, Tryz.ntmps93
  go_wp2_with (go_at_call 112; refine (cmpString_any _ _ _).mono ?_; rintro e w' ⟨rfl, rfl⟩)
  go_ret
  exact ⟨rfl, rfl⟩
set_option maxHeartbeats 1000000 in
theorem byName_any (f g : Fd) (w : World) :
    Calls Tryz.prog 92 #[f.one, g.one] w fun e w' => e = .returned (.int .i64 (Lib.compareBytes f.nm g.nm)) ∧ Below w.heap.size w w' := by
  have c := fun w => compare_any (bs f.nm) (bs g.nm) w
  simp only [bs_data] at c
  generalize Lib.compareBytes f.nm g.nm = r at c ⊢
  go_enter Tryz.func92, Tryz.ntmps92
  go_wp2_with (go_at_call 93; refine (c _).mono ?_; rintro e w' ⟨rfl, rfl⟩)
  go_ret
  exact ⟨rfl, b_alloc (b_alloc (Below.refl _ _) (Nat.le_refl _) _) (Nat.le_refl _) _⟩

theorem wp_region_after {P : Program} {X : Type} (F : X → World) {id : Nat} {Q : Exit → Act → World → Prop} {a : Act} {w : World} {l : List Oper} (hm : P.follows .mixedOrders = true) (hB : Region.lexB .any l.toArray = true)
    (hC : ∃ x, { w with drawn := w.drawn + 1 } = F x) (h : wpQuiet P l.toArray (fun w' => ∃ x, w' = F x) (fun a' => ∀ w', (∃ x, w' = F x) → Q .normal a' w') l a) : (Code.region id l.toArray true).wp P Q a w :=
  wp_region_quiet (C := fun w' => ∃ x, w' = F x) hm hB hC (by simpa using h)
theorem after_all (w : World) : ∃ (X : Type) (_ : Nonempty X) (F : X → World), (∀ x, Below w.heap.size w (F x)) ∧ (∀ W, Below w.heap.size w W → ∃ x, W = F x) :=
  ⟨{ W // Below w.heap.size w W }, ⟨⟨w, Below.refl _ _⟩⟩, Subtype.val, fun x => x.2, fun W h => ⟨⟨W, h⟩, rfl⟩⟩

def fnd (nm : Nm) (all : List Fd) : Bool := match all[lo nm all]? with
  | some g => g.nm == nm
  | none => false

set_option maxHeartbeats 8000000 in
set_option maxRecDepth 100000 in
theorem search_some (b off cap : Nat) (L : List Fd) (f : Fd) (w : World) (hb : b < w.heap.size) (hL : LiesF w b off L) (hs : Srt L) (hn : L.length ≤ 96) :
    Calls Tryz.prog 94 #[.slice (some ⟨b, off, none⟩) L.length cap, f.one, .func (.func 92) #[] #[]] w fun e w' => e = .returned (.tuple #[.int .i64 (lo f.nm L), .bool (fnd f.nm L)]) ∧ Below w.heap.size w w' := by
  have hlo := lo_le f.nm L
  have HS : Hid (LiesF w b off L ∧ Srt L) := ⟨hL, hs⟩
  have hB0 : Below w.heap.size w (w.alloc (.cells #[.string (bs f.nm), .int .i64 f.t, .bool f.must, .bool f.key] 52)) := b_alloc (Below.refl _ _) (Nat.le_refl _) _
  obtain ⟨w0, hw0⟩ : ∃ w0, w0 = w.alloc (.cells #[.string (bs f.nm), .int .i64 f.t, .bool f.must, .bool f.key] 52) := ⟨_, rfl⟩
  have HW : Hid (w0.cell? ⟨w.heap.size, 0, none⟩ = some (.string (bs f.nm)) ∧ w0.cell? ⟨w.heap.size, 1, none⟩ = some (.int .i64 f.t) ∧ w0.cell? ⟨w.heap.size, 2, none⟩ = some (.bool f.must) ∧ w0.cell? ⟨w.heap.size, 3, none⟩ = some (.bool f.key) ∧ w.heap.size < w0.heap.size) := by
    subst hw0; refine ⟨?_, ?_, ?_, ?_, ?_⟩ <;> simp
  rw [← hw0] at hB0
  have HB0 : Hid (Below w.heap.size w w0) := hB0
  clear hL hs hB0
  go_enter Tryz.func94, Tryz.ntmps94
  go_wp2
  rw [← hw0]
  clear hw0
  go_loopw [9, 10] (fun i j wr => ∃ p q : Nat, p ≤ lo f.nm L ∧ lo f.nm L ≤ q ∧ q ≤ L.length ∧ i = .int .i64 p ∧ j = .int .i64 q ∧ Below w0.heap.size w0 wr) (fun i j _ => (intOf j).toNat - (intOf i).toNat)
  case atStart => exact ⟨0, L.length, Nat.zero_le _, hlo, Nat.le_refl _, rfl, rfl, Below.refl _ _⟩
  case round =>
    obtain ⟨p, q, h1, h2, h3, rfl, rfl, hB⟩ := hrel
    have HR : Hid (p ≤ lo f.nm L ∧ lo f.nm L ≤ q ∧ Below w0.heap.size w0 wr) := ⟨h1, h2, hB⟩
    obtain ⟨g0, g1, g2, g3, g4⟩ := HW.out
    have e0 := (hB.cell (p := ⟨w.heap.size, 0, none⟩) g4).trans g0
    have e1 := (hB.cell (p := ⟨w.heap.size, 1, none⟩) g4).trans g1
    have e2 := (hB.cell (p := ⟨w.heap.size, 2, none⟩) g4).trans g2
    have e3 := (hB.cell (p := ⟨w.heap.size, 3, none⟩) g4).trans g3
    have hBw : Below w.heap.size w wr := on1 HB0.out hB (Nat.le_refl _)
    by_cases hlt : p < q
    · obtain ⟨m, hm⟩ : ∃ m, m = (p + q) / 2 := ⟨_, rfl⟩
      have hml : m < L.length := by omega
      have hmq : m < q := by omega
      have hpm : p ≤ m := by omega
      have hdiv : ((p : Int) + (q : Int)) / 2 = (m : Int) := by omega
      obtain ⟨x, hx⟩ : ∃ x, L[m]? = some x := ⟨L[m], by simp [hml]⟩
      obtain ⟨c0, c1, c2, c3⟩ := HS.out.1 m x hx
      have d0 := (hBw.cell (p := ⟨b, off + m * 4, none⟩) hb).trans c0
      have d1 := (hBw.cell (p := ⟨b, off + m * 4 + 1, none⟩) hb).trans c1
      have d2 := (hBw.cell (p := ⟨b, off + m * 4 + 2, none⟩) hb).trans c2
      have d3 := (hBw.cell (p := ⟨b, off + m * 4 + 3, none⟩) hb).trans c3
      have hsp := lo_spec f.nm HS.out.2 m x hx
      rw [less_cmp, decide_eq_true_iff] at hsp
      have cb := fun W => byName_any x f W
      obtain ⟨r, hr⟩ : ∃ r, Lib.compareBytes x.nm f.nm = r := ⟨_, rfl⟩
      rw [hr] at cb hsp
      clear c0 c1 c2 c3 g0 g1 g2 g3 hr hx hm hB
      by_cases hr0 : r < 0
      · have HM : Hid (m + 1 ≤ lo f.nm L) := hsp.2 hr0
        clear hsp h1 h2
        go_wp2_with fail
        try rw [hdiv]
        clear hdiv
        go_region_with (go_at_call 92; refine (cb _).mono ?_; rintro e W2 ⟨rfl, hB2⟩)
        all_goals
          go_wp2
          go_roundw
          case rel => exact ⟨m + 1, q, HM.out, HR.out.2.1, h3, by go_num, rfl, on1 HR.out.2.2.drew hB2 (Nat.le_refl _)⟩
          case measure => simp [intOf]; omega
      · have HM : Hid (lo f.nm L ≤ m) := by
          show _ ≤ _
          have : ¬ m < lo f.nm L := fun h => hr0 (hsp.1 h)
          omega
        clear hsp h1 h2
        go_wp2_with fail
        try rw [hdiv]
        clear hdiv
        go_region_with (go_at_call 92; refine (cb _).mono ?_; rintro e W2 ⟨rfl, hB2⟩)
        all_goals
          go_wp2
          go_roundw
          case rel => exact ⟨p, m, HR.out.1, HM.out, by omega, rfl, by go_num, on1 HR.out.2.2.drew hB2 (Nat.le_refl _)⟩
          case measure => simp [intOf]; omega
    · have hpl : p = lo f.nm L := by omega
      by_cases hl : p < L.length
      · obtain ⟨x, hx⟩ : ∃ x, L[p]? = some x := ⟨L[p], by simp [hl]⟩
        obtain ⟨c0, c1, c2, c3⟩ := HS.out.1 p x hx
        have d0 := (hBw.cell (p := ⟨b, off + p * 4, none⟩) hb).trans c0
        have d1 := (hBw.cell (p := ⟨b, off + p * 4 + 1, none⟩) hb).trans c1
        have d2 := (hBw.cell (p := ⟨b, off + p * 4 + 2, none⟩) hb).trans c2
        have d3 := (hBw.cell (p := ⟨b, off + p * 4 + 3, none⟩) hb).trans c3
        have cb := fun W => byName_any x f W
        have hz := cmpB_zero x.nm f.nm
        have hfnd : fnd f.nm L = (Lib.compareBytes x.nm f.nm == 0) := by
          unfold fnd; rw [← hpl, hx]; simp only
          rw [Bool.eq_iff_iff, beq_iff_eq, beq_iff_eq]; exact hz.symm
        obtain ⟨r, hr⟩ : ∃ r, Lib.compareBytes x.nm f.nm = r := ⟨_, rfl⟩
        rw [hr] at cb hfnd
        have HF : Hid (fnd f.nm L = (r == 0) ∧ p = lo f.nm L) := ⟨hfnd, hpl⟩
        have hqp : q = p ∨ ¬ q = p := by omega
        have hpi : (p : Int) < (L.length : Int) := by omega
        clear c0 c1 c2 c3 g0 g1 g2 g3 hr hx hB hz hfnd hpl h1 h2 hqp
        have hbr : b < wr.heap.size := Nat.lt_of_lt_of_le hb hBw.size
        have htr : w.heap.size < wr.heap.size := Nat.lt_of_lt_of_le g4 HR.out.2.2.size
        obtain ⟨X, hX, F, hF1, hF2⟩ := after_all wr
        have k0 : ∀ y, (F y).cell? ⟨b, off + p * 4, none⟩ = some (.string (bs x.nm)) := fun y => ((hF1 y).cell (p := ⟨b, off + p * 4, none⟩) hbr).trans d0
        have k1 : ∀ y, (F y).cell? ⟨b, off + p * 4 + 1, none⟩ = some (.int .i64 x.t) := fun y => ((hF1 y).cell (p := ⟨b, off + p * 4 + 1, none⟩) hbr).trans d1
        have k2 : ∀ y, (F y).cell? ⟨b, off + p * 4 + 2, none⟩ = some (.bool x.must) := fun y => ((hF1 y).cell (p := ⟨b, off + p * 4 + 2, none⟩) hbr).trans d2
        have k3 : ∀ y, (F y).cell? ⟨b, off + p * 4 + 3, none⟩ = some (.bool x.key) := fun y => ((hF1 y).cell (p := ⟨b, off + p * 4 + 3, none⟩) hbr).trans d3
        have l0 : ∀ y, (F y).cell? ⟨w.heap.size, 0, none⟩ = some (.string (bs f.nm)) := fun y => ((hF1 y).cell (p := ⟨w.heap.size, 0, none⟩) htr).trans e0
        have l1 : ∀ y, (F y).cell? ⟨w.heap.size, 1, none⟩ = some (.int .i64 f.t) := fun y => ((hF1 y).cell (p := ⟨w.heap.size, 1, none⟩) htr).trans e1
        have l2 : ∀ y, (F y).cell? ⟨w.heap.size, 2, none⟩ = some (.bool f.must) := fun y => ((hF1 y).cell (p := ⟨w.heap.size, 2, none⟩) htr).trans e2
        have l3 : ∀ y, (F y).cell? ⟨w.heap.size, 3, none⟩ = some (.bool f.key) := fun y => ((hF1 y).cell (p := ⟨w.heap.size, 3, none⟩) htr).trans e3
        have cF : ∀ y, Calls Tryz.prog 92 #[x.one, f.one] (F y) fun e w'' => e = .returned (.int .i64 r) ∧ ∃ z, w'' = F z := fun y => (cb (F y)).mono fun e w'' h => ⟨h.1, hF2 _ (on1 (hF1 y) h.2 (Nat.le_refl _))⟩
        have HX : Hid (∃ z, { wr with drawn := wr.drawn + 1 } = F z) := hF2 _ (Below.refl _ wr).drew
        have HF1 : Hid (∀ y, Below wr.heap.size wr (F y)) := hF1
        clear hF1 hF2 cb d0 d1 d2 d3 e0 e1 e2 e3
        go_wp2_with fail
        refine wp_region_after F (by kernel_rfl) (by kernel_rfl) HX.out ?_
        repeat (go_big_quiet_step (exact cF _))
        refine wpQuiet_nil ?_
        intro W2 hw2
        obtain ⟨y, rfl⟩ := hw2
        go_wp2
        go_ret2
        exact ⟨ret_v (by rw [HF.out.1, ← HF.out.2]; rfl), on1 hBw (HF1.out y) (Nat.le_refl _)⟩
      · have hfnd : fnd f.nm L = false := by
          unfold fnd; rw [← hpl, List.getElem?_eq_none (by omega)]
        have HF : Hid (fnd f.nm L = false ∧ p = lo f.nm L) := ⟨hfnd, hpl⟩
        have hpi : ¬ (p : Int) < (L.length : Int) := by omega
        have hpd : decide ((p : Int) < (L.length : Int)) = false := by simpa using hpi
        clear g0 g1 g2 g3 hB hfnd hpl h1 h2
        go_wp2_with fail
        go_quiet (fail)
        go_wp2
        go_ret2
        exact ⟨ret_v (by rw [HF.out.1, ← HF.out.2]; rfl), b_drewN hBw _⟩
set_option maxHeartbeats 4000000 in
theorem search_nil (ao : Option Addr) (c : Nat) (f : Fd) (w : World) :
    Calls Tryz.prog 94 #[.slice ao 0 c, f.one, .func (.func 92) #[] #[]] w fun e w' => e = .returned (.tuple #[.int .i64 0, .bool false]) ∧ Below w.heap.size w w' := by
  have hB0 : Below w.heap.size w (w.alloc (.cells #[.string (bs f.nm), .int .i64 f.t, .bool f.must, .bool f.key] 52)) := b_alloc (Below.refl _ _) (Nat.le_refl _) _
  obtain ⟨w0, hw0⟩ : ∃ w0, w0 = w.alloc (.cells #[.string (bs f.nm), .int .i64 f.t, .bool f.must, .bool f.key] 52) := ⟨_, rfl⟩
  rw [← hw0] at hB0
  go_enter Tryz.func94, Tryz.ntmps94
  go_wp2
  rw [← hw0]
  clear hw0
  go_loopw [9, 10] (fun i j wr => i = .int .i64 0 ∧ j = .int .i64 0 ∧ wr = w0) (fun i j _ => 0)
  case atStart => exact ⟨rfl, rfl, rfl⟩
  case round =>
    obtain ⟨rfl, rfl, rfl⟩ := hrel
    go_wp2_with fail
    go_quiet (fail)
    go_wp2
    go_ret2
    exact ⟨rfl, b_drewN hB0 _⟩
theorem search_any {v : Value} {L : List Fd} {w : World} (h : IsF w v L) (hs : Srt L) (hn : L.length ≤ 96) (f : Fd) :
    Calls Tryz.prog 94 #[v, f.one, .func (.func 92) #[] #[]] w fun e w' => e = .returned (.tuple #[.int .i64 (lo f.nm L), .bool (fnd f.nm L)]) ∧ Below w.heap.size w w' := by
  rcases h with ⟨ao, c, rfl, rfl, _⟩ | ⟨b, off, cap, rfl, hcap, hm, hb, hl⟩
  · exact search_nil ao c f w
  · exact search_some b off cap L f w hb hl hs hn
end Go.Proofs.YtgjlonilbhlneaaGreatDoor
