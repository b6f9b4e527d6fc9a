/-
  The walks of schema.checkBond and schema.Check.
-/
import Derived.Test.YtkmkhadacppdnaaM07
import Derived.WalkKit
import Derived.Lib.Walk
import Derived.Laws.OwnMore
import Derived.Laws.AppendOwn
import Derived.Laws.NewBlocks
import Derived.OwnWalk
import Derived.Deep.QuietTactic
import Derived.Lib.AppendZeros
import Derived.Deep.DeepCutAuto
import Derived.Laws.AppendOwnNone
import Derived.Laws.ResultCell
import Derived.Lib.Hide
import Derived.Deep.RegionLaw
import Derived.Deep.RegionHeld
import Derived.Deep.RegionHeld3
import Derived.Deep.RegionHeldLaw
import Derived.Lib.SliceRun
namespace Go.Proofs.Ytkmkhadacppdnaa
open Go.RowKit
set_option linter.unusedVariables false
set_option linter.unusedSimpArgs false

/-- A bond in a box of its own. -/
abbrev boxB (x : Bd) : Obj := .cells #[.string (bs x.nm), .string (bs x.fr), .string (bs x.tt), .int .i64 x.mn, .int .i64 x.mx] 31
set_option maxHeartbeats 8000000 in
set_option maxRecDepth 100000 in
theorem checkBond_any {vk va : Value} {L : List Kd} {A : List Bd} (x : Bd) {w : World} (hK : IsK w vk L) (hL12 : L.length ≤ 12) (hA : IsB w va A) (hA12 : A.length ≤ 12) (hx : x.nm.length ≤ maxLen) :
    Calls Try.prog 9 #[vk, va, x.one] w fun e w' => e = .returned (errV (bErr L A x)) ∧ Below w.heap.size w w' := by
  have hB0 : Below w.heap.size w (w.alloc (boxB x)) := b_allocK (Below.refl _ _) (Nat.le_refl _) _
  have HB0 : Hid (Below w.heap.size w (w.alloc (boxB x))) := hB0
  have nm := fun w => name_any (bs x.nm) w (by rw [bs_size]; exact hx)
  simp only [bs_data] at nm
  have HK : Hid (IsK w vk L ∧ L.length ≤ 12) := ⟨hK, hL12⟩
  have c1 := bondIndex_any (hA.on hB0) hA12 x.nm
  clear hK hL12 hA hA12 hx hB0
  by_cases h1 : nErr x.nm = 0
  · have nm' : ∀ w, Calls Try.prog 15 #[.string (bs x.nm)] w fun e w' => e = .returned .nilIface ∧ w' = w := fun w => by
      have := nm w; rw [h1] at this; exact this
    clear nm
    rcases idxB_spec x.nm A 0 with hx1 | ⟨j, q, hx1, _, _⟩
    · rw [hx1] at c1
      go_enter Try.func9, Try.ntmps9
      go_wp2_with (first | (go_at_call 15; refine (nm' _).mono ?_; rintro e w' ⟨rfl, rfl⟩) | (go_at_call 16; refine c1.mono ?_; rintro e W1 ⟨rfl, hB1⟩; refine Hid.out ?_))
      refine Lib.hid ?_
      have g1 := hB1.cell (p := ⟨w.heap.size, 1, none⟩) (by simp)
      have g2 := hB1.cell (p := ⟨w.heap.size, 2, none⟩) (by simp)
      have g3 := hB1.cell (p := ⟨w.heap.size, 3, none⟩) (by simp)
      have g4 := hB1.cell (p := ⟨w.heap.size, 4, none⟩) (by simp)
      simp at g1 g2 g3 g4
      have hsz1 : w.heap.size < W1.heap.size := Nat.lt_of_lt_of_le (by simp) hB1.size
      have hBw1 := on1K HB0.out hB1 (Nat.le_refl _)
      have c2 := hasKind_any (HK.out.1.on hBw1) HK.out.2 x.fr
      clear c1 nm'
      by_cases hf : hasK L x.fr = true
      · rw [hf] at c2
        go_wp2_with (go_at_call 17; refine c2.mono ?_; rintro e W2 ⟨rfl, hB2⟩; refine Hid.out ?_)
        refine Lib.hid ?_
        have f2 := (hB2.cell (p := ⟨w.heap.size, 2, none⟩) hsz1).trans g2
        have f3 := (hB2.cell (p := ⟨w.heap.size, 3, none⟩) hsz1).trans g3
        have f4 := (hB2.cell (p := ⟨w.heap.size, 4, none⟩) hsz1).trans g4
        have hsz2 : w.heap.size < W2.heap.size := Nat.lt_of_lt_of_le hsz1 hB2.size
        have hBw2 := on1K hBw1 hB2 (Nat.le_refl _)
        have c3 := hasKind_any (HK.out.1.on hBw2) HK.out.2 x.tt
        clear c2 g1 g2 g3 g4 hsz1
        by_cases ht : hasK L x.tt = true
        · rw [ht] at c3
          go_wp2_with (go_at_call 17; refine c3.mono ?_; rintro e W3 ⟨rfl, hB3⟩; refine Hid.out ?_)
          refine Lib.hid ?_
          have e3 := (hB3.cell (p := ⟨w.heap.size, 3, none⟩) hsz2).trans f3
          have e4 := (hB3.cell (p := ⟨w.heap.size, 4, none⟩) hsz2).trans f4
          have hBw3 := on1K hBw2 hB3 (Nat.le_refl _)
          have c4 := inRangeB_any x.mn x.mx W3
          clear c3 f2 f3 f4 hsz2
          by_cases hr : inRB x.mn x.mx = true
          · have H : Hid (bErr L A x = 0) := by
              show _ = _
              unfold bErr; rw [if_pos h1, if_pos hx1, if_pos hf, if_pos ht, if_pos hr]
            rw [hr] at c4
            clear h1 hx1 hf ht hr
            go_wp2_with (go_at_call 18; refine c4.mono ?_; rintro e W4 ⟨rfl, rfl⟩)
            go_ret
            exact ⟨ret_v (by rw [H.out]; rfl), hBw3⟩
          · have H : Hid (bErr L A x = 1) := by
              show _ = _
              unfold bErr; rw [if_pos h1, if_pos hx1, if_pos hf, if_pos ht, if_neg hr]
            have hr' : inRB x.mn x.mx = false := by simpa using hr
            rw [hr'] at c4
            clear h1 hx1 hf ht hr hr'
            go_wp2_with (go_at_call 18; refine c4.mono ?_; rintro e W4 ⟨rfl, rfl⟩)
            go_ret
            exact ⟨ret_v (by rw [H.out]; rfl), hBw3⟩
        · have H : Hid (bErr L A x = 5) := by
            show _ = _
            unfold bErr; rw [if_pos h1, if_pos hx1, if_pos hf, if_neg ht]
          have ht' : hasK L x.tt = false := by simpa using ht
          rw [ht'] at c3
          clear h1 hx1 hf ht ht'
          go_wp2_with (go_at_call 17; refine c3.mono ?_; rintro e W3 ⟨rfl, hB3⟩)
          go_ret
          exact ⟨ret_v (by rw [H.out]; rfl), on1K hBw2 hB3 (Nat.le_refl _)⟩
      · have H : Hid (bErr L A x = 5) := by
          show _ = _
          unfold bErr; rw [if_pos h1, if_pos hx1, if_neg hf]
        have hf' : hasK L x.fr = false := by simpa using hf
        rw [hf'] at c2
        clear h1 hx1 hf hf'
        go_wp2_with (go_at_call 17; refine c2.mono ?_; rintro e W2 ⟨rfl, hB2⟩)
        go_ret
        exact ⟨ret_v (by rw [H.out]; rfl), on1K hBw1 hB2 (Nat.le_refl _)⟩
    · have H : Hid (bErr L A x = 7) := by
        show _ = _
        unfold bErr; rw [if_pos h1, if_neg (by omega)]
      rw [hx1, Nat.zero_add] at c1
      clear h1 hx1
      go_enter Try.func9, Try.ntmps9
      go_wp2_with (first | (go_at_call 15; refine (nm' _).mono ?_; rintro e w' ⟨rfl, rfl⟩) | (go_at_call 16; refine c1.mono ?_; rintro e W1 ⟨rfl, hB1⟩))
      go_ret
      exact ⟨ret_v (by rw [H.out]; rfl), on1K HB0.out hB1 (Nat.le_refl _)⟩
  · have nm' : ∀ w, Calls Try.prog 15 #[.string (bs x.nm)] w fun e w' => e = .returned (.iface 50 (.int .i64 (nErr x.nm))) ∧ w' = w := fun w => by
      have := nm w; rw [errV_ne h1] at this; exact this
    have H : Hid (bErr L A x = nErr x.nm ∧ ¬ nErr x.nm = 0) := by
      refine ⟨?_, h1⟩
      unfold bErr; rw [if_neg h1]
    clear nm h1 c1
    go_enter Try.func9, Try.ntmps9
    go_wp2_with (go_at_call 15; refine (nm' _).mono ?_; rintro e w' ⟨rfl, rfl⟩)
    go_ret
    exact ⟨ret_v (by rw [H.out.1, errV_ne H.out.2]; rfl), HB0.out⟩

theorem isB_view {w : World} {v : Value} {l : List Bd} (h : IsB w v l) : ∃ ao c, v = .slice ao l.length c ∧ (l.length ≤ c ∨ l = []) ∧ c ≤ maxLen ∧ ∀ (j : Nat) g, l[j]? = some g → ∃ b o, ao = some ⟨b, o, none⟩ ∧ b < w.heap.size ∧ LiesB w b o l := by
  rcases h with ⟨rfl, rfl⟩ | ⟨b, off, cap, rfl, h1, h2, hb, hl⟩
  · exact ⟨none, 0, rfl, .inr rfl, by unfold maxLen; omega, fun j g hg => by simp at hg⟩
  · exact ⟨_, _, rfl, .inl h1, h2, fun j g hg => ⟨b, off, rfl, hb, hl⟩⟩

set_option maxHeartbeats 8000000 in
set_option maxRecDepth 100000 in
theorem scheck_any {vk vb : Value} {L : List Kd} {B : List Bd} {w : World} (hK : IsK w vk L) (hP : Parts w L) (hz : SzK L) (hb : IsB w vb B) (hzb : SzB B) :
    Calls Try.prog 5 #[.agg #[vk, vb]] w fun e w' => e = .returned (.tuple #[.string (bs (sErr L B).1), errV (sErr L B).2]) ∧ Below w.heap.size w w' := by
  obtain ⟨ak, ck, evk, hkl⟩ := hK.sln
  obtain ⟨ab, cb, evb, hbc, hbm, hvb⟩ := isB_view hb
  obtain ⟨_, _, _, hbl⟩ := hb.sln
  subst evk
  subst evb
  have hB0 : Below w.heap.size w (w.alloc (.cells #[.slice ak L.length ck, .slice ab B.length cb] 25)) := b_allocK (Below.refl _ _) (Nat.le_refl _) _
  have ck1 := kcheck_any (hK.on hB0) (hP.on hB0) hz
  have HH : Hid (IsK w (.slice ak L.length ck) L ∧ SzB B ∧ (B.length ≤ cb ∨ B = []) ∧ (∀ (j : Nat) g, B[j]? = some g → ∃ b o, ab = some ⟨b, o, none⟩ ∧ b < w.heap.size ∧ LiesB w b o B) ∧ cb ≤ maxLen) := ⟨hK, hzb, hbc, hvb, hbm⟩
  have HB0 : Hid (Below w.heap.size w (w.alloc (.cells #[.slice ak L.length ck, .slice ab B.length cb] 25))) := hB0
  unfold maxLen at hkl hbl hbm
  clear hK hP hz hb hzb hvb hbc hB0
  by_cases h1 : (ksErr L).2 = 0
  · have HL12 : Hid (L.length ≤ 12) := (ksErr_good.1 h1).2
    have HE : Hid (sErr L B = if 12 < B.length then ([], 4) else bsGo L [] B) := by
      show _ = _
      unfold sErr; rw [if_pos h1]
    rw [h1, errV_0] at ck1
    clear h1
    go_enter Try.func5, Try.ntmps5
    go_wp2_with (go_at_call 8; refine ck1.mono ?_; rintro e W1 ⟨rfl, hB1⟩; refine Hid.out ?_)
    refine Lib.hid ?_
    have g0 := hB1.cell (p := ⟨w.heap.size, 0, none⟩) (by simp)
    have g1 := hB1.cell (p := ⟨w.heap.size, 1, none⟩) (by simp)
    simp at g0 g1
    have hsz1 : w.heap.size < W1.heap.size := Nat.lt_of_lt_of_le (by simp) hB1.size
    have HBw1 : Hid (Below w.heap.size w W1) := on1K HB0.out hB1 (Nat.le_refl _)
    clear ck1 hB1
    by_cases h12 : 12 < B.length
    · have HE2 : Hid (sErr L B = ([], 4)) := by
        show _ = _
        rw [HE.out, if_pos h12]
      clear HE
      go_wp2
      go_ret2
      exact ⟨ret_v (by rw [HE2.out]; rfl), HBw1.out⟩
    · have HE2 : Hid (sErr L B = bsGo L [] B) := by
        show _ = _
        rw [HE.out, if_neg h12]
      clear HE
      go_wp2
      go_loopw [27] (fun i wr => ∃ k : Nat, k ≤ B.length ∧ i = .int .i64 k ∧ sErr L B = bsGo L (B.take k) (B.drop k) ∧ Below W1.heap.size W1 wr) (fun i _ => B.length - (intOf i).toNat)
      case atStart => exact ⟨0, Nat.zero_le _, rfl, by rw [HE2.out]; rfl, Below.refl _ _⟩
      case round =>
        obtain ⟨k, hk, rfl, hg, hB⟩ := hrel
        have HG : Hid (sErr L B = bsGo L (B.take k) (B.drop k)) := hg
        have hBw := on1K HBw1.out hB (Nat.le_refl _)
        clear hg
        by_cases hlt : k < B.length
        · obtain ⟨p, hp⟩ : ∃ p, B[k]? = some p := ⟨B[k], by simp [hlt]⟩
          obtain ⟨bx, ox, rfl, hbx, hlx⟩ := HH.out.2.2.2.1 k p hp
          obtain ⟨c0, c1, c2, c3, c4⟩ := hlx k p hp
          have d0 := (hBw.cell (p := ⟨bx, ox + k * 5, none⟩) hbx).trans c0
          have d1 := (hBw.cell (p := ⟨bx, ox + k * 5 + 1, none⟩) hbx).trans c1
          have d2 := (hBw.cell (p := ⟨bx, ox + k * 5 + 2, none⟩) hbx).trans c2
          have d3 := (hBw.cell (p := ⟨bx, ox + k * 5 + 3, none⟩) hbx).trans c3
          have d4 := (hBw.cell (p := ⟨bx, ox + k * 5 + 4, none⟩) hbx).trans c4
          have r0 := (hB.cell (p := ⟨w.heap.size, 0, none⟩) hsz1).trans g0
          have r1 := (hB.cell (p := ⟨w.heap.size, 1, none⟩) hsz1).trans g1
          have hszr : w.heap.size < wr.heap.size := Nat.lt_of_lt_of_le hsz1 hB.size
          have hsn : ¬ w.heap.size = wr.heap.size := by omega
          have hbr : bx < wr.heap.size := Nat.lt_of_lt_of_le hbx hBw.size
          have hcb : B.length ≤ cb := by
            rcases HH.out.2.2.1 with h | h
            · exact h
            · rw [h] at hlt; simp at hlt
          have hkc : (k : Int) ≤ (cb : Int) := by omega
          have hlen : (B.take k).length = k := List.length_take_of_le hk
          have HBx : Hid (Below w.heap.size w (wr.alloc (boxB p))) := b_allocK hBw (Nat.le_refl _) _
          have cc : ∀ n, Calls Try.prog 9 #[.slice ak L.length ck, .slice (some ⟨bx, ox, none⟩) k cb, p.one] ((wr.alloc (boxB p)).drewN n) fun e w' => e = .returned (errV (bErr L (B.take k) p)) ∧ Below (wr.alloc (boxB p)).heap.size ((wr.alloc (boxB p)).drewN n) w' := fun n => by
            have hBn : Below w.heap.size w ((wr.alloc (boxB p)).drewN n) := b_drewK HBx.out n
            have hI : IsB ((wr.alloc (boxB p)).drewN n) (.slice (some ⟨bx, ox, none⟩) k cb) (B.take k) := .inr ⟨bx, ox, cb, by rw [hlen], by rw [hlen]; omega, HH.out.2.2.2.2, Nat.lt_of_lt_of_le hbx hBn.size, (hlx.on hbx hBn).take k⟩
            exact checkBond_any p (HH.out.1.on hBn) HL12.out hI (by omega) (HH.out.2.1 p (List.mem_of_getElem? hp))
          have HD : Hid (B.drop k = p :: B.drop (k + 1) ∧ B.take (k + 1) = B.take k ++ [p]) := ⟨dropK hp, takeK hp⟩
          clear c0 c1 c2 c3 c4 hp hlx hlen g0 g1
          by_cases he : bErr L (B.take k) p = 0
          · rw [he, errV_0] at cc
            have HS : Hid (sErr L B = bsGo L (B.take (k + 1)) (B.drop (k + 1))) := by
              show _ = _
              rw [HG.out, HD.out.1, HD.out.2]
              conv => lhs; unfold bsGo
              rw [if_pos he]
            clear HG he
            go_wp2_with fail
            go_region_with (go_at_call 9; refine (cc 1).mono ?_; rintro e W2 ⟨rfl, hB2⟩)
            all_goals
              go_wp2
              go_roundw
              case rel => exact ⟨k + 1, by omega, by go_num, HS.out, on1K (b_drewK (b_allocK hB (Nat.le_refl _) (boxB p)) 1) hB2 (Nat.le_refl _)⟩
              case measure => simp [intOf]; omega
          · rw [errV_ne he] at cc
            have HS : Hid (sErr L B = (p.nm, bErr L (B.take k) p) ∧ ¬ bErr L (B.take k) p = 0) := by
              refine ⟨?_, he⟩
              rw [HG.out, HD.out.1]
              conv => lhs; unfold bsGo
              rw [if_neg he]
            clear HG he
            go_wp2_with fail
            go_region_with (go_at_call 9; refine (cc 1).mono ?_; rintro e W2 ⟨rfl, hB2⟩)
            all_goals
              have q0 := hB2.cell (p := ⟨wr.heap.size, 0, none⟩) (by simp)
              simp at q0
              go_wp2
              go_ret2
              exact ⟨ret_v (by rw [HS.out.1, errV_ne HS.out.2]; rfl), on1K (b_drewK HBx.out 1) hB2 (Nat.le_refl _)⟩
        · have hd : B.drop k = [] := List.drop_eq_nil_of_le (by omega)
          have H : Hid (sErr L B = ([], 0)) := by
            show _ = _
            rw [HG.out, hd]; rfl
          clear HG hd
          go_wp2
          go_ret2
          exact ⟨ret_v (by rw [H.out]; rfl), hBw⟩
  · have HE : Hid (sErr L B = ksErr L ∧ ¬ (ksErr L).2 = 0) := by
      refine ⟨?_, h1⟩
      unfold sErr; rw [if_neg h1]
    rw [errV_ne h1] at ck1
    clear h1
    go_enter Try.func5, Try.ntmps5
    go_wp2_with (go_at_call 8; refine ck1.mono ?_; rintro e W1 ⟨rfl, hB1⟩)
    go_ret2
    exact ⟨ret_v (by rw [HE.out.1, errV_ne HE.out.2]; rfl), on1K HB0.out hB1 (Nat.le_refl _)⟩
end Go.Proofs.Ytkmkhadacppdnaa

/-
  Rows that a call made: what keeps them; appending to nothing; rows of elements of several cells.
-/
namespace Go.Proofs.Ytkmkhadacppdnaa
open Go.RowKit
set_option linter.unusedVariables false
set_option linter.unusedSimpArgs false

theorem b_alloc {w wr : World} (h : Below w.heap.size w wr) (o : Obj) : Below w.heap.size w (wr.alloc o) := h.alloc h.size _
theorem b_drewN {B : Nat} {a w : World} (h : Below B a w) : ∀ n, Below B a (w.drewN n) := fun n => ⟨h.os, h.tape, h.output, h.size, h.block⟩

theorem cell_at {w : World} {b i : Nat} {cs : Array Value} {t : TypeId} {u : Value} (h : w.heap[b]? = some (.cells cs t (0, 0))) (hu : cs[i]? = some u) : w.cell? ⟨b, i, none⟩ = some u := by simp [World.cell?, h, hu]
theorem frz_at {w : World} {b i : Nat} {cs : Array Value} {t : TypeId} (h : w.heap[b]? = some (.cells cs t (0, 0))) : w.frozen? ⟨b, i, none⟩ = false := by simp [World.frozen?, h]
theorem cell_lt {w : World} {a : Addr} {v : Value} (h : w.cell? a = some v) : a.block < w.heap.size := by
  unfold World.cell? at h
  rcases hb : w.heap[a.block]? with _ | o
  · rw [hb] at h; cases h
  · exact (Array.getElem?_eq_some_iff.1 hb).1

/-- The blocks of one element stay. -/
def Kt (t : TypeId) (w w' : World) : Prop := w.heap.size ≤ w'.heap.size ∧ ∀ (b : Nat) (cs : Array Value), w.heap[b]? = some (.cells cs t (0, 0)) → w'.heap[b]? = some (.cells cs t (0, 0))
theorem Kt.refl (t : TypeId) (w : World) : Kt t w w := ⟨Nat.le_refl _, fun _ _ h => h⟩
theorem Kt.trans {t : TypeId} {a b c : World} (h : Kt t a b) (k : Kt t b c) : Kt t a c := ⟨Nat.le_trans h.1 k.1, fun x cs hx => k.2 x cs (h.2 x cs hx)⟩
theorem Kt.of_below {t : TypeId} {w w' : World} (h : Below w.heap.size w w') : Kt t w w' := ⟨h.size, fun b cs hb => (h.block b (Array.getElem?_eq_some_iff.1 hb).1).trans hb⟩
/-- A block of another element was written to. -/
theorem Kt.of_grown {t t' : TypeId} {w w' : World} {g : Nat} {cs : Array Value} (hg : w.heap[g]? = some (.cells cs t' (0, 0))) (hne : t' ≠ t) (h : w.grownBy w' (some g)) : Kt t w w' :=
  ⟨h.size, fun b ds hb => (h.block b (Array.getElem?_eq_some_iff.1 hb).1 (fun e => by
    injection e with e; subst e; rw [hg] at hb; injection hb with e3; injection e3 with _ e4; exact hne e4)).trans hb⟩
theorem Kt.of_row {t : TypeId} {w w' : World} (h : w.grownBy w' none) : Kt t w w' := ⟨h.size, fun b ds hb => (h.block b (Array.getElem?_eq_some_iff.1 hb).1 (by simp)).trans hb⟩
/-- A row of another element was written to. -/
theorem Kt.of_own {t e : TypeId} {w w' : World} {base size n : Nat} {v : Value} {xs : List Value} (ho : w.ownsRow base e size v n xs) (hne : e ≠ t) (h : w.grownBy w' v.ownBlock) : Kt t w w' := by
  rcases ho.2 with ⟨rfl, _⟩ | ⟨g, cap, cur, rfl, _, hg, _⟩
  · exact .of_row h
  · exact .of_grown hg hne h
theorem Kt.drew {t : TypeId} {a w : World} (h : Kt t a w) : Kt t a w.drew := h
theorem Kt.alloc {t : TypeId} {a w : World} (h : Kt t a w) (o : Obj) : Kt t a (w.alloc o) := h.trans (.of_below ((Below.refl _ w).alloc (Nat.le_refl _) o))
theorem Kt.set {t t' : TypeId} {a w : World} (h : Kt t a w) {g : Nat} {cs : Array Value} (hg : w.heap[g]? = some (.cells cs t' (0, 0))) (hne : t' ≠ t) (i : Nat) (u : Value) : Kt t a (w.setCell ⟨g, i, none⟩ u) :=
  h.trans ⟨by simp, fun b ds hb => (heap_setCell_other w ⟨g, i, none⟩ b u (fun e => by
    simp only at e; subst e; rw [hg] at hb; injection hb with e3; injection e3 with _ e4; exact hne e4)).trans hb⟩
theorem own_kt {w w' : World} {base : Nat} {e : TypeId} {size : Nat} {v : Value} {n : Nat} {xs : List Value} (h : w.ownsRow base e size v n xs) (hk : Kt e w w') : w'.ownsRow base e size v n xs := by
  refine ⟨h.1, ?_⟩
  rcases h.2 with h | ⟨g, cap, cur, hv, hg, hh, rest⟩
  · exact .inl h
  · exact .inr ⟨g, cap, cur, hv, hg, hk.2 g cur hh, rest⟩
theorem grown_trans {a b c : World} {r : Option Nat} (h : a.grownBy b r) (k : b.grownBy c r) : a.grownBy c r :=
  ⟨k.os.trans h.os, k.tape.trans h.tape, k.output.trans h.output, Nat.le_trans h.size k.size, fun x hx hne => (k.block x (Nat.lt_of_lt_of_le hx h.size) hne).trans (h.block x hx hne)⟩
theorem grown_of_below {a b : World} (h : Below a.heap.size a b) (r : Option Nat) : a.grownBy b r := ⟨h.os, h.tape, h.output, h.size, fun k hk _ => h.block k hk⟩
theorem below_grown {B : Nat} {w0 w w' : World} {r : Option Nat} (h : Below B w0 w) (hg : w.grownBy w' r) (hB : B ≤ w.heap.size) (hr : ∀ k, r = some k → B ≤ k) : Below B w0 w' :=
  ⟨hg.os.trans h.os, hg.tape.trans h.tape, hg.output.trans h.output, Nat.le_trans h.size hg.size, fun k hk => (hg.block k (Nat.lt_of_lt_of_le hk hB) (fun e => by have := hr k e.symm; omega)).trans (h.block k hk)⟩
/-- A block of one element. -/
def Ty (w : World) (g : Nat) (t : TypeId) : Prop := ∃ cs : Array Value, w.heap[g]? = some (.cells cs t (0, 0))
theorem Ty.set {w : World} {g : Nat} {t : TypeId} (h : Ty w g t) (b i : Nat) (u : Value) : Ty (w.setCell ⟨b, i, none⟩ u) g t := by
  obtain ⟨cs, hc⟩ := h
  by_cases e : g = b
  · subst e
    exact ⟨_, heap_setCell_same w g i cs t u hc⟩
  · exact ⟨cs, (heap_setCell_other w ⟨b, i, none⟩ g u e).trans hc⟩
theorem Ty.below {w w' : World} {g : Nat} {t : TypeId} (h : Ty w g t) (hB : Below w.heap.size w w') : Ty w' g t := by
  obtain ⟨cs, hc⟩ := h
  exact ⟨cs, (hB.block g (Array.getElem?_eq_some_iff.1 hc).1).trans hc⟩
theorem Kt.ty {t t' : TypeId} {a w : World} (h : Kt t a w) {g : Nat} (hg : Ty w g t') (hne : t' ≠ t) (i : Nat) (u : Value) : Kt t a (w.setCell ⟨g, i, none⟩ u) := by
  obtain ⟨cs, hc⟩ := hg
  exact h.set hc hne i u
theorem Kt.ty3 {t t' : TypeId} {a w : World} (h : Kt t a w) {g : Nat} (hg : Ty w g t') (hne : t' ≠ t) (i j k : Nat) (u v x : Value) : Kt t a (((w.setCell ⟨g, i, none⟩ u).setCell ⟨g, j, none⟩ v).setCell ⟨g, k, none⟩ x) :=
  ((h.ty hg hne i u).ty (hg.set _ _ _) hne j v).ty ((hg.set _ _ _).set _ _ _) hne k x
theorem below_set3 {B : Nat} {a w : World} (h : Below B a w) {g : Nat} (hg : B ≤ g) (i j k : Nat) (u v x : Value) : Below B a (((w.setCell ⟨g, i, none⟩ u).setCell ⟨g, j, none⟩ v).setCell ⟨g, k, none⟩ x) :=
  ((h.setCell hg u).setCell hg v).setCell hg x
theorem step_append_own {P : Program} {ops : Array Oper} {o : Oper} {a : Act} {w : World} {K : Act → World → Prop} {Q : Exit → Act → World → Prop} {E : Prop}
    (hg : o.guard = none) (s x : Operand) (t : TypeId) (ho : o.op = .call { callee := .builtin .append, args := #[s, x], argTypes := #[t, t] })
    (base : Nat) (e : TypeId) (i : TypeInfo) (z : Value) (size bytes : Nat) (ht : P.underlying t = some (.slice e)) (hi : P.info? e = some i) (hz : i.zero = some z)
    (hsize : i.size = size) (hby : i.bytes = bytes) (hzs : z.cells.size = size) (hsz : 0 < size)
    (v : Value) (n : Nat) (xs : List Value) (hs : a.eval s = v) (hown : w.ownsRow base e size v n xs)
    (ad : Addr) (m c : Nat) (news : List Value) (hx : a.eval x = .slice (some ad) m c) (hl : news.length = m * size) (hnews : ∀ j u, news[j]? = some u → w.cell? (ad.add j) = some u) (h1 : ∀ u ∈ news, u.oneCell' = true)
    (h63 : n + m ≤ maxLen) (hbytes : (n + m) * bytes ≤ 140737488355328) (hbase : base ≤ w.heap.size)
    (hK : ∀ v' w', w'.ownsRow base e size v' (n + m) (xs ++ news) → w.grownBy w' v.ownBlock → K (a.put o.dst v') w') :
    if Region.wanted o (yielded ops a.tmps) = true then Oper.wp P o a w K Q else E := by
  have hw : Region.wanted o (yielded ops a.tmps) = true := by simp [Region.wanted, hg]
  rw [if_pos hw]
  exact wp_append_own w s x t ho base e i z size bytes ht hi hz hsize hby hzs hsz v n xs hs hown ad m c news hx hl hnews h1 h63 hbytes hbase (fun v' w' h2 h3 _ => hK v' w' h2 h3)
/-- A block of another type is not the row's. -/
theorem row_apart {w : World} {base : Nat} {e t : TypeId} {size : Nat} {v : Value} {n : Nat} {xs : List Value} (h : w.ownsRow base e size v n xs) {b : Nat} {cs : Array Value} (hb : w.heap[b]? = some (.cells cs t (0, 0))) (hne : t ≠ e) : v.ownBlock ≠ some b := by
  rcases h.2 with ⟨rfl, _⟩ | ⟨g, cap, cur, rfl, _, hg, _⟩
  · intro h; cases h
  · intro h
    have : g = b := by simpa [Value.ownBlock] using h
    subst this
    rw [hg] at hb
    injection hb with hb
    injection hb with _ ht _
    exact hne ht.symm
theorem own_drew {w : World} {base : Nat} {e : TypeId} {size : Nat} {v : Value} {n : Nat} {xs : List Value} (h : w.ownsRow base e size v n xs) : w.drew.ownsRow base e size v n xs := h
theorem own_set {w : World} {base : Nat} {e : TypeId} {size : Nat} {v : Value} {n : Nat} {xs : List Value} (h : w.ownsRow base e size v n xs) {G : Nat} (hne : v.ownBlock ≠ some G) (i : Nat) (u : Value) : (w.setCell ⟨G, i, none⟩ u).ownsRow base e size v n xs := by
  refine ⟨h.1, ?_⟩
  rcases h.2 with h | ⟨g, cap, cur, rfl, hb, hg, rest⟩
  · exact .inl h
  · exact .inr ⟨g, cap, cur, rfl, hb, (heap_setCell_other w ⟨G, i, none⟩ g u (fun e => hne (by rw [e]; rfl))).trans hg, rest⟩
theorem grown_cell {w w' : World} (h : w.grownBy w' none) : ∀ (b i : Nat), b < w.heap.size → w'.cell? ⟨b, i, none⟩ = w.cell? ⟨b, i, none⟩ := fun b i hb => World.cell?_of_block (h.block b hb (by simp))
theorem grown_frozen {w w' : World} (h : w.grownBy w' none) : ∀ (b i : Nat), b < w.heap.size → w'.frozen? ⟨b, i, none⟩ = w.frozen? ⟨b, i, none⟩ := fun b i hb => World.frozen?_of_block (h.block b hb (by simp))
theorem grown_below {w w' : World} (h : w.grownBy w' none) : Below w.heap.size w w' := below_grown (Below.refl _ _) h (Nat.le_refl _) (fun k hk => by cases hk)

section
variable {α : Type} {f : α → List Value} {sz : Nat}
theorem flatK (h : ∀ x, (f x).length = sz) : ∀ (L : List α) (k : Nat) (x : α) (i : Nat), L[k]? = some x → i < sz → (L.flatMap f)[k * sz + i]? = (f x)[i]?
  | [], k, x, i, hk, _ => by simp at hk
  | y :: r, 0, x, i, hk, hi => by
    simp at hk; subst hk
    rw [List.flatMap_cons, List.getElem?_append_left (by rw [h]; omega)]
    simp
  | y :: r, k + 1, x, i, hk, hi => by
    rw [List.flatMap_cons, List.getElem?_append_right (by rw [h, Nat.add_mul]; omega), h]
    have := flatK h r k x i (by simpa using hk) hi
    rw [← this]
    congr 1
    rw [Nat.add_mul]; omega
theorem flatK_len (h : ∀ x, (f x).length = sz) : ∀ L : List α, (L.flatMap f).length = L.length * sz
  | [] => by simp
  | y :: r => by rw [List.flatMap_cons, List.length_append, h, flatK_len h r, List.length_cons, Nat.add_mul]; omega
theorem flatK_inv (h : ∀ x, (f x).length = sz) (L : List α) {j : Nat} {u : Value} (hu : (L.flatMap f)[j]? = some u) : ∃ k x i, L[k]? = some x ∧ i < sz ∧ j = k * sz + i ∧ (f x)[i]? = some u := by
  have hj := (List.getElem?_eq_some_iff.1 hu).1
  rw [flatK_len h] at hj
  have hsz : 0 < sz := Nat.pos_of_ne_zero (fun e => by subst e; simp at hj)
  have hk : j / sz < L.length := Nat.div_lt_of_lt_mul (by rw [Nat.mul_comm]; exact hj)
  have hi : j % sz < sz := Nat.mod_lt _ hsz
  have hji : j = j / sz * sz + j % sz := by rw [Nat.mul_comm]; exact (Nat.div_add_mod j sz).symm
  refine ⟨j / sz, L[j / sz], j % sz, by simp [hk], hi, hji, ?_⟩
  rw [← flatK h L (j / sz) _ (j % sz) (by simp [hk]) hi, ← hji]
  exact hu
theorem flatK_take (h : ∀ x, (f x).length = sz) (L : List α) (k : Nat) : (L.take k).flatMap f = (L.flatMap f).take (k * sz) := by
  induction L generalizing k with
  | nil => simp
  | cons y r ih =>
    cases k with
    | zero => simp
    | succ k =>
      rw [List.take_succ_cons, List.flatMap_cons, ih, List.flatMap_cons, List.take_append, h, List.take_of_length_le (l := f y) (by rw [h, Nat.add_mul]; omega), show (k + 1) * sz - sz = k * sz by rw [Nat.add_mul]; omega]
theorem flatK_drop (h : ∀ x, (f x).length = sz) (L : List α) (k : Nat) : (L.drop k).flatMap f = (L.flatMap f).drop (k * sz) := by
  induction L generalizing k with
  | nil => simp
  | cons y r ih =>
    cases k with
    | zero => simp
    | succ k =>
      rw [List.drop_succ_cons, ih, List.flatMap_cons, List.drop_append, h, show List.drop ((k + 1) * sz) (f y) = [] from List.drop_eq_nil_of_le (by rw [h, Nat.add_mul]; omega), List.nil_append, show (k + 1) * sz - sz = k * sz by rw [Nat.add_mul]; omega]
/-- One element is another one: its cells are. -/
theorem flatK_set (h : ∀ x, (f x).length = sz) (L : List α) (k : Nat) (x : α) (hk : k < L.length) : (L.set k x).flatMap f = (L.flatMap f).take (k * sz) ++ f x ++ (L.flatMap f).drop ((k + 1) * sz) := by
  rw [List.set_eq_take_append_cons_drop, if_pos hk, List.flatMap_append, List.flatMap_cons, flatK_take h, flatK_drop h, List.append_assoc]
end

/-- What a slice holds, cell by cell; one that has nothing may lie anywhere. -/
def HasC (w : World) (v : Value) (n : Nat) (xs : List Value) : Prop := ∃ ao c, v = .slice ao n c ∧ ((n = 0 ∧ xs = []) ∨ ∃ b off, ao = some ⟨b, off, none⟩ ∧ b < w.heap.size ∧ ∀ j u, xs[j]? = some u → w.cell? ((⟨b, off, none⟩ : Addr).add j) = some u)
theorem HasC.on {w w' : World} {v : Value} {n : Nat} {xs : List Value} (h : HasC w v n xs) (hB : Below w.heap.size w w') : HasC w' v n xs := by
  obtain ⟨ao, c, rfl, h0 | ⟨b, off, rfl, hb, hL⟩⟩ := h
  · exact ⟨ao, c, rfl, .inl h0⟩
  · refine ⟨_, c, rfl, .inr ⟨b, off, rfl, Nat.lt_of_lt_of_le hb hB.size, fun j u hu => ?_⟩⟩
    have := hL j u hu
    rw [Addr.add_lit] at this ⊢
    exact (hB.cell hb).trans this

section
variable {P : Program}
theorem run_append_nothing (w : World) (t ty e : TypeId) (i : TypeInfo) (ht : P.underlying t = some (.slice e)) (hi : P.info? e = some i) (ao : Option Addr) (c : Nat) :
    (Builtin.append_ #[t, t] ty #[.slice none 0 0, .slice ao 0 c]).run P w = .ok (.slice none 0 0) w := by
  cases ao <;> simp [Builtin.append_, run_underlying ht, sizeOf, typeInfo, hi, Builtin.lenOf, Builtin.firstCells, loadCells, loadCellsFrom]
/-- append(nil, x...): a copy of the call's own. -/
theorem run_clone (w : World) (base : Nat) (t ty e : TypeId) (i : TypeInfo) (z : Value) (size bytes : Nat) (ht : P.underlying t = some (.slice e)) (hi : P.info? e = some i) (hz : i.zero = some z)
    (hsize : i.size = size) (hby : i.bytes = bytes) (hzs : z.cells.size = size) (hsz : 0 < size) (u : Value) (m : Nat) (news : List Value) (hx : HasC w u m news) (hl : news.length = m * size) (h1 : ∀ u ∈ news, u.oneCell' = true)
    (h63 : m ≤ maxLen) (hbytes : m * bytes ≤ 140737488355328) (hbase : base ≤ w.heap.size) :
    ∃ v' w', (Builtin.append_ #[t, t] ty #[.slice none 0 0, u]).run P w = .ok v' w' ∧ w'.ownsRow base e size v' m news ∧ w.grownBy w' none := by
  obtain ⟨ao, c, rfl, ⟨rfl, rfl⟩ | ⟨b, off, rfl, hb, hL⟩⟩ := hx
  · exact ⟨_, w, run_append_nothing w t ty e i ht hi ao c, World.ownsRow_nil _ _ _ _, ⟨rfl, rfl, rfl, Nat.le_refl _, fun _ _ _ => rfl⟩⟩
  · obtain ⟨v', w', r1, r2, r3, _⟩ := run_append_own (P := P) w base t ty e i z size bytes ht hi hz hsize hby hzs hsz (.slice none 0 0) 0 [] (World.ownsRow_nil _ _ _ _) ⟨b, off, none⟩ m c news hl hL h1 (by omega) (by rw [Nat.zero_add]; exact hbytes) hbase
    refine ⟨v', w', r1, ?_, r3⟩
    simpa using r2
theorem wp_append_E {w : World} {o : Oper} {a : Act} {K : Act → World → Prop} {Q : Exit → Act → World → Prop} (s x : Operand) (t : TypeId) (ho : o.op = .call { callee := .builtin .append, args := #[s, x], argTypes := #[t, t] })
    (v u : Value) (hs : a.eval s = v) (hx : a.eval x = u) {R : Value → World → Prop} (hr : ∃ v' w', (Builtin.append_ #[t, t] o.type #[v, u]).run P w = .ok v' w' ∧ R v' w') (hK : ∀ v' w', R v' w' → K (a.put o.dst v') w') : o.wp P a w K Q := by
  obtain ⟨v', w', hr, r2⟩ := hr
  unfold Oper.wp execOp
  simp only [ho, resolve, invoke, builtin, Sem.run_bind, Sem.run_pure, Result.andThen_ok, List.map_toArray, List.map_cons, List.map_nil, hs, hx, hr]
  exact hK v' w' r2
theorem wpList_append_E {w : World} {ops : Array Oper} {rest : List Oper} {o : Oper} {a : Act} {Q : Exit → Act → World → Prop} (hg : o.guard = none) (s x : Operand) (t : TypeId) (ho : o.op = .call { callee := .builtin .append, args := #[s, x], argTypes := #[t, t] })
    (v u : Value) (hs : a.eval s = v) (hx : a.eval x = u) {R : Value → World → Prop} (hr : ∃ v' w', (Builtin.append_ #[t, t] o.type #[v, u]).run P w = .ok v' w' ∧ R v' w') (hK : ∀ v' w', R v' w' → wpList P ops Q rest (a.put o.dst v') w') : wpList P ops Q (o :: rest) a w :=
  wpList_plain hg fun K hK' => wp_append_E s x t ho v u hs hx hr (fun v' w' r => hK' _ _ (hK v' w' r))
theorem step_append_E {w : World} {ops : Array Oper} {o : Oper} {a : Act} {K : Act → World → Prop} {Q : Exit → Act → World → Prop} {E : Prop} (hg : o.guard = none) (s x : Operand) (t : TypeId) (ho : o.op = .call { callee := .builtin .append, args := #[s, x], argTypes := #[t, t] })
    (v u : Value) (hs : a.eval s = v) (hx : a.eval x = u) {R : Value → World → Prop} (hr : ∃ v' w', (Builtin.append_ #[t, t] o.type #[v, u]).run P w = .ok v' w' ∧ R v' w') (hK : ∀ v' w', R v' w' → K (a.put o.dst v') w') :
    if Region.wanted o (yielded ops a.tmps) = true then Oper.wp P o a w K Q else E := by
  have hw : Region.wanted o (yielded ops a.tmps) = true := by simp [Region.wanted, hg]
  rw [if_pos hw]
  exact wp_append_E s x t ho v u hs hx hr hK
end
end Go.Proofs.Ytkmkhadacppdnaa
