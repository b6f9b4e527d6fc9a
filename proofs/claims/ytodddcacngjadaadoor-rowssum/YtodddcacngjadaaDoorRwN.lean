/-
  The walk of nodesAt, along a row of nodes.
-/
import Derived.Test.YtodddcacngjadaaDoorRwM
import Derived.Deep.RegionHeld3
namespace Go.Proofs.YtodddcacngjadaaDoor
open Go.RowKit
open Go.Maps (Keyed)
set_option linter.unusedVariables false
set_option linter.unusedSimpArgs false

/-- Between two rounds of the second loop. -/
def NbI (W : World) (N : List Nd) (vf i : Value) (wr : World) : Prop := ∃ k : Nat, k ≤ N.length ∧ i = .int .i64 (k : Int) ∧ wr.ownsRow W.heap.size 47 3 vf k (cellsN (N.take k)) ∧ Below W.heap.size W wr
set_option maxHeartbeats 4000000 in
set_option maxRecDepth 100000 in
theorem nodesAt_row {vn vw : Value} {N : List Nd} {w : World} (hN : IsN w vn N) (hid : ∀ (j : Nat) (x : Nd), N[j]? = some x → x.id = (j : Int) + 1) (hW : IsW w vw N.length) (hl : N.length ≤ 60) (i' : Int) (ha : N.length = 0 ∨ i' = 0 ∨ i' = 1) :
    Calls Tryd.prog 10 #[vn, vw, .int .i64 i'] w fun e w' => ∃ vf, e = .returned (.tuple #[vf, .nilIface]) ∧ w'.ownsRow w.heap.size 47 3 vf N.length (cellsN N) ∧ Below w.heap.size w w' := by
  obtain ⟨i0, hi0, hz0, hz1, hz2⟩ := info_parts infoN
  have HN := Lib.hid hN
  have HWW := Lib.hid hW
  have HID := Lib.hid hid
  obtain ⟨an, cn, rfl, hcn, hcells⟩ := hN
  obtain ⟨aw, cw, rfl, hwc⟩ := hW
  have HC := Lib.hid hcells
  have HWC := Lib.hid hwc
  have hmm := @run_makeMap Tryd.prog
  have HA := Lib.hid ha
  clear ha
  clear hcells hwc hid
  go_enter Tryd.func10, Tryd.ntmps10
  go_wp2
  go_loopw [19] (fun i wr => NaI w N i wr) (fun i _ => N.length - (intOf i).toNat)
  case atStart => exact ⟨0, Nat.zero_le _, rfl, by rw [mapN_zero]; exact OwnM.made w, grown_of_below (Below.refl _ _) _⟩
  case round =>
    obtain ⟨k, hk, rfl, hM, hg⟩ := hrel
    by_cases hlt : k < N.length
    · obtain ⟨x, hx⟩ : ∃ x, N[k]? = some x := ⟨_, List.getElem?_eq_getElem hlt⟩
      have hbw := below_map (Nat.le_refl _) hg
      obtain ⟨b, off, rfl, hbl, hL⟩ := HC.out.resolve_left (fun e => by rw [e] at hlt; simp at hlt)
      obtain ⟨d0, d1, d2, hR⟩ := (hL.on hbl hbw) k x hx
      have hxi := HID.out k x hx
      obtain ⟨ra, rn, hrv⟩ : ∃ ra rn, x.rv = .slice ra x.rc.length rn := by obtain ⟨a, c, e, _⟩ := hR; exact ⟨a, c, e⟩
      obtain ⟨kl, hkl⟩ := keyI (n := (k : Int) + 1) (by omega) (by omega)
      have HF : Hid (∀ o W, (W = (wr.alloc o) ∨ W = (wr.alloc o).drew) → ∃ w7, (Instr.mapUpdate 68 (.map (some w.heap.size)) (.int .i64 ((k : Int) + 1)) x.one).run Tryd.prog W = .ok () w7 ∧ NaI w N (.int .i64 ((k : Int) + 1)) w7) := fun o W hW => by
        have hB3 : Below wr.heap.size wr W := by
          rcases hW with rfl | rfl
          · exact b_allocR (Below.refl _ _) _
          · exact b_drewK (b_allocR (Below.refl _ _) o) 1
        have hMW := hM.of_block (hB3.block _ hM.lt)
        obtain ⟨w7, r1, r2, r3⟩ := OwnM.put hMW keyedI encI_inj Tryd.underlying68 hkl x.one
        exact ⟨w7, r1, naI_on hx hlt hMW hg hB3 r2 r3⟩
      obtain ⟨xi, xk, xv, xc⟩ := x
      simp only at hrv d0 d1 d2 hR hxi HF
      subst hrv
      subst hxi
      have hF1 := HF.out (.cells #[.int .i64 ((k : Int) + 1), .string xk, .slice ra xc.length rn] 47) _ (.inl rfl)
      have hF2 := HF.out (.cells #[.int .i64 ((k : Int) + 1), .string xk, .slice ra xc.length rn] 47) _ (.inr rfl)
      obtain ⟨w7, r1, hI7⟩ := hF1
      obtain ⟨w8, r2, hI8⟩ := hF2
      have HI7 := Lib.hid hI7
      have HI8 := Lib.hid hI8
      clear hL hR hM hg hbw hx HF hkl hI7 hI8
      go_wp2
      go_roundw
      case rel => first | exact HI7.out | exact HI8.out
      case measure => simp [intOf]; omega
    · obtain rfl : k = N.length := by omega
      have hbw := below_map (Nat.le_refl _) hg
      obtain ⟨W, hW⟩ : ∃ W, W = wr := ⟨wr, rfl⟩
      subst hW
      have HM := Lib.hid hM
      have HBW := Lib.hid hbw
      have HWl := Lib.hid HM.out.lt
      clear hM hg
      go_wp2
      go_loopw [11, 30] (fun vf i wr => NbI W N vf i wr) (fun _ i _ => N.length - (intOf i).toNat)
      case atStart => exact ⟨0, Nat.zero_le _, rfl, World.ownsRow_nil _ _ _ _, Below.refl _ _⟩
      case round =>
        obtain ⟨k, hk2, rfl, hO, hB⟩ := hrel
        have HO := Lib.hid hO
        have HB := Lib.hid hB
        clear hO
        by_cases hlt2 : k < N.length
        · obtain ⟨x, hx⟩ : ∃ x, N[k]? = some x := ⟨_, List.getElem?_eq_getElem hlt2⟩
          obtain ⟨bw, ow, rfl, hbwl, hLW⟩ := HWC.out.resolve_left (fun e => by omega)
          have hBB := on1R HBW.out hB
          obtain ⟨g, c0, hgl, c1, c2⟩ := (hLW.on hbwl hBB) k hlt2
          have hsl := HN.out
          obtain ⟨ra, rn, hrv⟩ : ∃ ra rn, x.rv = .slice ra x.rc.length rn := by
            obtain ⟨b, off, rfl, hbl, hL⟩ := HC.out.resolve_left (fun e => by rw [e] at hlt2; simp at hlt2)
            obtain ⟨_, _, _, a, c, e, _⟩ := hL k x hx
            exact ⟨a, c, e⟩
          obtain ⟨kl, hkl⟩ := keyI (n := (k : Int) + 1) (by omega) (by omega)
          have hMB : OwnM wr Tryd.prog 3 encI w.heap.size (mapN N N.length) := HM.out.of_block (hB.block _ HWl.out)
          have hlk := OwnM.look hMB keyedI encI_inj Tryd.underlying68 (zero47 wr) hkl true
          have hlk2 := OwnM.look hMB.drew keyedI encI_inj Tryd.underlying68 (zero47 wr.drew) hkl true
          rw [mapN_at hx] at hlk hlk2
          have HT : Hid (cellsN (N.take (k + 1)) = cellsN (N.take k) ++ x.cells) := by
            show _ = _
            obtain ⟨hk', e⟩ := List.getElem?_eq_some_iff.1 hx
            rw [List.take_succ_eq_append_getElem hk', cellsN_snoc, e]
          have HM3 : Hid (k + 1 ≤ maxLen ∧ (k + 1) * 48 ≤ 140737488355328) := ⟨by unfold maxLen; omega, by omega⟩
          have hsz : W.heap.size ≤ wr.heap.size := hB.size
          obtain ⟨xi, xk, xv, xc⟩ := x
          simp only at hrv
          subst hrv
          simp only [encI, Option.getD_some, Option.isSome_some, if_true] at hlk hlk2
          clear hLW hMB hB hBB hx hsl hkl
          rcases HA.out.resolve_left (by omega) with rfl | rfl
          all_goals
            have hwr : Hid (True) := trivial
            go_wp2_with (at_builtin; refine wpList_append_own _ rfl (.tmp 55) (.tmp 57) 22 rfl W.heap.size 47 i0 _ 3 48 Tryd.underlying22 hi0 hz0 hz1 hz2 rfl (by decide) u11 k (cellsN (N.take k)) rfl ((HO.out.alloc _).alloc _) ⟨wr.heap.size + 1, 0, none⟩ 1 1 [.int .i64 xi, .string xk, .slice ra xc.length rn] rfl rfl (by have := new_at (wr.alloc (.cells #[.int .i64 xi, .string xk, .slice ra xc.length rn] 47)) [.int .i64 xi, .string xk, .slice ra xc.length rn] 47; rw [World.size_alloc] at this; exact this) (by simp [Value.oneCell']) HM3.out.1 HM3.out.2 (by simp; omega) ?_; intro v1 w1 hown hgrow _)
            have R : NbI W N v1 (.int .i64 ((k : Int) + 1)) w1 := ⟨k + 1, by omega, by go_num, by rw [HT.out]; exact hown, below_grown (b_allocR (b_allocR HB.out _) _) hgrow (b_allocR (b_allocR HB.out _) _).size (fun j hj => (HO.out.lt j hj).1)⟩
            refine ⟨?_, ?_⟩
            · first | exact R | ((repeat apply Exists.intro); refine ⟨?_, rfl⟩; exact R)
            · simp [intOf]; omega
        · obtain rfl : k = N.length := by omega
          have HF : Hid (wr.ownsRow w.heap.size 47 3 u11 N.length (cellsN N) ∧ Below w.heap.size w wr) := by
            refine ⟨?_, on1R HBW.out hB⟩
            have := own_base HO.out HBW.out.size
            rwa [List.take_length] at this
          clear hB
          go_wp2
          go_ret2
          exact ⟨_, rfl, HF.out⟩
end Go.Proofs.YtodddcacngjadaaDoor
