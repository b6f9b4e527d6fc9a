/-
  The walks of what Pick calls, for the one name k.
-/
import Derived.Test.YtodddcacngjadaaDoorRwN
import Derived.Laws.Cover1
namespace Go.Proofs.YtodddcacngjadaaDoor
open Go.RowKit
open Go.Maps (Keyed)
set_option linter.unusedVariables false
set_option linter.unusedSimpArgs false

set_option maxHeartbeats 4000000 in
set_option maxRecDepth 100000 in
theorem nodesAt_out {vn vw : Value} {N : List Nd} {w : World} (hN : IsN w vn N) (hid : ∀ (j : Nat) (x : Nd), N[j]? = some x → x.id = (j : Int) + 1) (hW : IsW w vw N.length) (hl : N.length ≤ 60) (hp : 0 < N.length) (i' : Int) (ha : i' < 0 ∨ 1 < i') :
    Calls Tryd.prog 10 #[vn, vw, .int .i64 i'] w fun e w' => e = .returned (.tuple #[.slice none 0 0, .iface 51 (.int .i64 1)]) ∧ Below w.heap.size w w' := by
  have HID := Lib.hid hid
  obtain ⟨an, cn, rfl, hcn, hcells⟩ := hN
  obtain ⟨aw, cw, rfl, hwc⟩ := hW
  have HC := Lib.hid hcells
  have HWC := Lib.hid hwc
  have hmm := @run_makeMap Tryd.prog
  clear hcells hwc hid
  go_enter Tryd.func10, Tryd.ntmps10
  go_wp2
  go_loopw [19] (fun i wr => NaI w N i wr) (fun i _ => N.length - (intOf i).toNat)
  case atStart => exact ⟨0, Nat.zero_le _, rfl, by rw [mapN_zero]; exact OwnM.made w, grown_of_below (Below.refl _ _) _⟩
  case round =>
    obtain ⟨k, hk, rfl, hM, hg⟩ := hrel
    by_cases hlt : k < N.length
    · obtain ⟨x, hx⟩ : ∃ x, N[k]? = some x := ⟨_, List.getElem?_eq_getElem hlt⟩
      have hbw := below_map (Nat.le_refl _) hg
      obtain ⟨b, off, rfl, hbl, hL⟩ := HC.out.resolve_left (fun e => by rw [e] at hlt; simp at hlt)
      obtain ⟨d0, d1, d2, hR⟩ := (hL.on hbl hbw) k x hx
      have hxi := HID.out k x hx
      obtain ⟨ra, rn, hrv⟩ : ∃ ra rn, x.rv = .slice ra x.rc.length rn := by obtain ⟨a, c, e, _⟩ := hR; exact ⟨a, c, e⟩
      obtain ⟨kl, hkl⟩ := keyI (n := (k : Int) + 1) (by omega) (by omega)
      have HF : Hid (∀ o W, (W = (wr.alloc o) ∨ W = (wr.alloc o).drew) → ∃ w7, (Instr.mapUpdate 68 (.map (some w.heap.size)) (.int .i64 ((k : Int) + 1)) x.one).run Tryd.prog W = .ok () w7 ∧ NaI w N (.int .i64 ((k : Int) + 1)) w7) := fun o W hW => by
        have hB3 : Below wr.heap.size wr W := by
          rcases hW with rfl | rfl
          · exact b_allocR (Below.refl _ _) _
          · exact b_drewK (b_allocR (Below.refl _ _) o) 1
        have hMW := hM.of_block (hB3.block _ hM.lt)
        obtain ⟨w7, r1, r2, r3⟩ := OwnM.put hMW keyedI encI_inj Tryd.underlying68 hkl x.one
        exact ⟨w7, r1, naI_on hx hlt hMW hg hB3 r2 r3⟩
      obtain ⟨xi, xk, xv, xc⟩ := x
      simp only at hrv d0 d1 d2 hR hxi HF
      subst hrv
      subst hxi
      have hF1 := HF.out (.cells #[.int .i64 ((k : Int) + 1), .string xk, .slice ra xc.length rn] 47) _ (.inl rfl)
      have hF2 := HF.out (.cells #[.int .i64 ((k : Int) + 1), .string xk, .slice ra xc.length rn] 47) _ (.inr rfl)
      obtain ⟨w7, r1, hI7⟩ := hF1
      obtain ⟨w8, r2, hI8⟩ := hF2
      have HI7 := Lib.hid hI7
      have HI8 := Lib.hid hI8
      clear hL hR hM hg hbw hx HF hkl hI7 hI8
      go_wp2
      go_roundw
      case rel => first | exact HI7.out | exact HI8.out
      case measure => simp [intOf]; omega
    · obtain rfl : k = N.length := by omega
      have hbw := below_map (Nat.le_refl _) hg
      obtain ⟨W, hW⟩ : ∃ W, W = wr := ⟨wr, rfl⟩
      subst hW
      have HBW := Lib.hid hbw
      clear hM hg
      go_wp2
      go_loopw [11, 30] (fun vf i wr => vf = .slice none 0 0 ∧ i = .int .i64 0 ∧ wr = W) (fun _ i _ => 0)
      case atStart => exact ⟨rfl, rfl, rfl⟩
      case round =>
        obtain ⟨rfl, rfl, rfl⟩ := hrel
        obtain ⟨bw, ow, rfl, hbwl, hLW⟩ := HWC.out.resolve_left (fun e => by omega)
        obtain ⟨g, c0, hgl, c1, c2⟩ := (hLW.on hbwl hbw) 0 hp
        have hp' : ((0 : Int) < (N.length : Int)) := by omega
        rw [Nat.add_zero] at c0
        clear hLW hbw
        by_cases hneg : i' < 0
        · go_wp2
          go_ret2
          exact ⟨rfl, HBW.out⟩
        · have h2 : (2 : Int) ≤ i' := by omega
          go_wp2
          go_ret2
          exact ⟨rfl, HBW.out⟩

set_option maxHeartbeats 1000000 in
theorem checkNames_k (b c : Nat) (w : World) (hb : b < w.heap.size) (hc : w.cell? ⟨b, 0, none⟩ = some (.string ⟨#[107]⟩)) :
    Calls Tryd.prog 11 #[.slice (some ⟨b, 0, none⟩) 1 c] w fun e w' => e = .returned .nilIface ∧ w' = w := by
  have cN := fun W => name_any ⟨#[107]⟩ W (by decide)
  rw [show nErr (⟨#[107]⟩ : ByteArray).data.toList = 0 by decide, errV_0] at cN
  go_enter Tryd.func11, Tryd.ntmps11
  go_wp2
  go_loopw [8] (fun i wr => (i = .int .i64 0 ∨ i = .int .i64 1) ∧ wr = w) (fun i _ => 1 - (intOf i).toNat)
  case atStart => exact ⟨.inl rfl, rfl⟩
  case round =>
    obtain ⟨h | h, rfl⟩ := hrel
    · subst h
      go_wp2_with (go_at_call 20; refine (cN _).mono ?_; rintro e w' ⟨rfl, rfl⟩)
      go_roundw
      case rel => exact ⟨.inr rfl, trivial⟩
      case measure => simp [intOf]
    · subst h
      go_wp2
      go_ret
      exact ⟨rfl, rfl⟩

set_option maxHeartbeats 1000000 in
theorem isNaNs_any (s : ByteArray) (w : World) : Calls Tryd.prog 30 #[.string s] w fun e w' => e = .returned (.bool false) ∧ w' = w := by
  go_enter Tryd.func30, Tryd.ntmps30
  go_wp2
  go_ret
  exact ⟨rfl, rfl⟩
set_option maxHeartbeats 1000000 in
theorem lessK (w : World) : Calls Tryd.prog 21 #[.string ⟨#[107]⟩, .string ⟨#[107]⟩] w fun e w' => e = .returned (.bool false) ∧ w' = w := by
  have c1 := fun W => isNaNs_any ⟨#[107]⟩ W
  go_enter Tryd.func21, Tryd.ntmps21
  go_wp2_with (go_at_call 30; refine (c1 _).mono ?_; rintro e w' ⟨rfl, rfl⟩)
  go_ret
  exact ⟨rfl, rfl⟩
set_option maxHeartbeats 2000000 in
set_option maxRecDepth 100000 in
theorem search_k (b c : Nat) (w : World) (hb : b < w.heap.size) (hc : w.cell? ⟨b, 0, none⟩ = some (.string ⟨#[107]⟩)) :
    Calls Tryd.prog 13 #[.slice (some ⟨b, 0, none⟩) 1 c, .string ⟨#[107]⟩] w fun e w' => e = .returned (.tuple #[.int .i64 0, .bool true]) ∧ Below w.heap.size w w' := by
  have cL := lessK
  go_enter Tryd.func13, Tryd.ntmps13
  go_wp2
  go_loopw [7, 8] (fun i j wr => i = .int .i64 0 ∧ (j = .int .i64 0 ∨ j = .int .i64 1) ∧ wr = w) (fun i j _ => (intOf j).toNat)
  case atStart => exact ⟨rfl, .inr rfl, rfl⟩
  case round =>
    obtain ⟨rfl, h | h, rfl⟩ := hrel
    · subst h
      go_wp2
      go_ret2
      exact ⟨rfl, Below.refl _ _⟩
    · subst h
      go_wp2_with (go_at_call 21; refine (cL _).mono ?_; rintro e w' ⟨rfl, rfl⟩)
      go_roundw
      case rel => exact ⟨rfl, .inl rfl, trivial⟩
      case measure => simp [intOf]
set_option maxHeartbeats 2000000 in
set_option maxRecDepth 100000 in
theorem named_k (i : Int) (bx b c : Nat) (w : World) (hb : b < w.heap.size) (hc : w.cell? ⟨b, 0, none⟩ = some (.string ⟨#[107]⟩)) (hx : w.cell? ⟨bx, 0, none⟩ = some (.slice (some ⟨b, 0, none⟩) 1 c)) (hbx : bx < w.heap.size) :
    Calls Tryd.prog 12 #[.agg #[.string ⟨#[107]⟩, .int .i64 1, .int .i64 i, .string ⟨#[]⟩], .pointer (some ⟨bx, 0, none⟩)] w fun e w' => e = .returned (.bool true) ∧ Below w.heap.size w w' := by
  have hB0 : Below w.heap.size w (w.alloc (.cells #[.string ⟨#[107]⟩, .int .i64 1, .int .i64 i, .string ⟨#[]⟩] 43)) := b_allocR (Below.refl _ _) _
  have cS := fun (W : World) (hW : Below w.heap.size w W) => search_k b c W (Nat.lt_of_lt_of_le hb hW.size) ((hW.cell (p := ⟨b, 0, none⟩) hb).trans hc)
  have cS1 := cS _ hB0
  have cS2 := cS _ (b_drewK hB0 1)
  clear cS
  go_enter Tryd.func12, Tryd.ntmps12
  go_wp2_with (go_at_call 13; first | (refine cS1.mono ?_; rintro e W1 ⟨rfl, hB1⟩) | (refine cS2.mono ?_; rintro e W1 ⟨rfl, hB1⟩))
  go_ret
  first | exact ⟨rfl, on1R hB0 hB1⟩ | exact ⟨rfl, on1R (b_drewK hB0 1) hB1⟩

theorem infoPr : (Tryd.prog.info? 43).map (fun i => (i.zero, i.size, i.bytes)) = some (some (.agg #[.string ⟨#[]⟩, .int .i64 0, .int .i64 0, .string ⟨#[]⟩]), 4, 48) := by kernel_rfl
set_option maxHeartbeats 4000000 in
set_option maxRecDepth 100000 in
theorem kept_k {v : Value} (i : Int) (bx b c : Nat) {w : World} (h : IsR w v [prK i]) (hb : b < w.heap.size) (hc : w.cell? ⟨b, 0, none⟩ = some (.string ⟨#[107]⟩)) (hx : w.cell? ⟨bx, 0, none⟩ = some (.slice (some ⟨b, 0, none⟩) 1 c)) (hbx : bx < w.heap.size) :
    Calls Tryd.prog 14 #[v, .func (.func 12) #[] #[.pointer (some ⟨bx, 0, none⟩)]] w fun e w' => ∃ u, e = .returned u ∧ w'.ownsRow w.heap.size 43 4 u 1 (prK i).cells ∧ Below w.heap.size w w' := by
  obtain ⟨i0, hi0, hz0, hz1, hz2⟩ := info_parts infoPr
  obtain ⟨av, cv, rfl, h0 | ⟨bv, off, rfl, hbv, hL⟩⟩ := h
  · simp at h0
  obtain ⟨d0, d1, d2, d3⟩ := hL 0 (prK i) rfl
  simp only [prK, Nat.zero_mul, Nat.add_zero, List.length_singleton] at d0 d1 d2 d3 ⊢
  have cS := fun (W : World) (hW : Below w.heap.size w W) => named_k i bx b c W (Nat.lt_of_lt_of_le hb hW.size) ((hW.cell (p := ⟨b, 0, none⟩) hb).trans hc) ((hW.cell (p := ⟨bx, 0, none⟩) hbx).trans hx) (Nat.lt_of_lt_of_le hbx hW.size)
  have hB0 : Below w.heap.size w (w.alloc (.cells #[.string ⟨#[107]⟩, .int .i64 1, .int .i64 i, .string ⟨#[]⟩] 43)) := b_allocR (Below.refl _ _) _
  have cS1 := cS _ hB0
  have hNB := Lib.hid (heap_alloc_new w (.cells #[.string ⟨#[107]⟩, .int .i64 1, .int .i64 i, .string ⟨#[]⟩] 43))
  have HB0 := Lib.hid hB0
  have HM : Hid ((0 + 1 ≤ maxLen) ∧ (0 + 1) * 48 ≤ 140737488355328) := ⟨by unfold maxLen; omega, by omega⟩
  have hbvn : ¬ bv = w.heap.size := by omega
  clear cS hB0 hc hx hL
  go_enter Tryd.func14, Tryd.ntmps14
  go_wp2
  go_loopw [5, 10] (fun u k wr => (u = .slice none 0 0 ∧ k = .int .i64 0 ∧ wr = w) ∨ (k = .int .i64 1 ∧ wr.ownsRow w.heap.size 43 4 u 1 (prK i).cells ∧ Below w.heap.size w wr)) (fun _ k _ => 1 - (intOf k).toNat)
  case atStart => exact .inl ⟨rfl, rfl, rfl⟩
  case round =>
    rcases hrel with ⟨rfl, rfl, rfl⟩ | ⟨rfl, ho, hB⟩
    · go_wp2_with (first | (go_at_call 12; refine cS1.mono ?_; rintro e W1 ⟨rfl, hB1⟩; have hnb := (hB1.block wr.heap.size (by simp)).trans hNB.out; have q0 : W1.cell? ⟨wr.heap.size, 0, none⟩ = some (.string ⟨#[107]⟩) := cell_at hnb rfl; have q1 : W1.cell? ⟨wr.heap.size, 1, none⟩ = some (.int .i64 1) := cell_at hnb rfl; have q2 : W1.cell? ⟨wr.heap.size, 2, none⟩ = some (.int .i64 i) := cell_at hnb rfl; have q3 : W1.cell? ⟨wr.heap.size, 3, none⟩ = some (.string ⟨#[]⟩) := cell_at hnb rfl; have HB1 := Lib.hid (on1R HB0.out hB1); clear hB1 hnb) | (at_builtin; refine wpList_append_own _ rfl (.tmp 17) (.tmp 19) 45 rfl wr.heap.size 43 i0 _ 4 48 Tryd.underlying45 hi0 hz0 hz1 hz2 rfl (by decide) (.slice none 0 0) 0 [] rfl (World.ownsRow_nil _ _ _ _) ⟨W1.heap.size, 0, none⟩ 1 1 [.string ⟨#[107]⟩, .int .i64 1, .int .i64 i, .string ⟨#[]⟩] rfl rfl (new_at W1 [.string ⟨#[107]⟩, .int .i64 1, .int .i64 i, .string ⟨#[]⟩] 43) (by simp [Value.oneCell']) HM.out.1 HM.out.2 (by have := HB1.out.size; simp; omega) ?_; intro v1 w1 hown hgrow _))
      refine ⟨?_, ?_⟩
      · have R : w1.ownsRow wr.heap.size 43 4 v1 1 (prK i).cells ∧ Below wr.heap.size wr w1 := ⟨hown, below_grown (b_allocR HB1.out _) hgrow (b_allocR HB1.out _).size (fun j hj => by simp [Value.ownBlock] at hj)⟩
        first | exact .inr ⟨rfl, R⟩ | ((repeat apply Exists.intro); refine ⟨?_, rfl⟩; exact .inr ⟨rfl, R⟩)
      · simp [intOf]
    · have HF := Lib.hid (And.intro ho hB)
      clear ho hB
      go_wp2
      go_ret
      exact ⟨_, rfl, HF.out⟩
end Go.Proofs.YtodddcacngjadaaDoor
