/-
  The law RowsSum returns true.
-/
import Derived.Test.YtodddcacngjadaaDoorRwQ
namespace Go.Proofs.YtodddcacngjadaaDoor
open Go.RowKit
set_option linter.unusedVariables false
set_option linter.unusedSimpArgs false

theorem rsum_off (x y : Int) (h : x < 0 ∨ 50 < x) (w : World) : Calls Tryd.prog 3 #[.int .i64 x, .int .i64 y] w fun e w' => e = .returned (.bool true) ∧ Below w.heap.size w w' := by
  by_cases h1 : x < 0
  · go_enter Tryd.func3, Tryd.ntmps3
    go_wp2
    go_ret
    exact ⟨rfl, Below.refl _ _⟩
  · have h2 : 50 < x := by omega
    go_enter Tryd.func3, Tryd.ntmps3
    go_wp2
    go_ret
    exact ⟨rfl, Below.refl _ _⟩

theorem infoW : (Tryd.prog.info? 28).map (fun i => (i.zero, i.size, i.bytes)) = some (some (.slice none 0 0), 1, 24) := by kernel_rfl
theorem cell_k (w : World) : (w.alloc (.cells #[.string ⟨#[107]⟩] 9)).cell? ⟨w.heap.size, 0, none⟩ = some (.string ⟨#[107]⟩) := cell_at (heap_alloc_new w _) rfl

set_option maxHeartbeats 8000000 in
set_option maxRecDepth 100000 in
theorem rsum_in (n : Nat) (hn : n ≤ 50) (y : Int) (w : World) (hg : Hnd w) : Calls Tryd.prog 3 #[.int .i64 n, .int .i64 y] w fun e w' => e = .returned (.bool true) ∧ Below w.heap.size w w' := by
  obtain ⟨i0, hi0, hz0, hz1, hz2⟩ := info_parts infoW
  have c4 := many_any n 0 (by omega) (by omega) w
  have HG : Hid (Hnd w) := hg
  have h1 : ¬ (n : Int) < 0 := by omega
  have h2 : ¬ (50 : Int) < (n : Int) := by omega
  clear hg
  go_enter Tryd.func3, Tryd.ntmps3
  go_wp2_with (go_at_call 4; refine c4.mono ?_; rintro e W1 ⟨an, cn, am, cm, rfl, hRow, hT, hB1⟩; refine Hid.out ?_)
  refine Lib.hid ?_
  obtain ⟨N, base, hbase, hln, hN, hrow, _⟩ := hRow
  obtain ⟨W2, hW2⟩ : ∃ W2, W2 = W1.alloc (.cells #[.slice an n cn, .slice am 0 cm] 25) := ⟨_, rfl⟩
  have hB2 : Below W1.heap.size W1 W2 := by rw [hW2]; exact b_allocR (Below.refl _ _) _
  have n2 : W2.heap[W1.heap.size]? = some (.cells #[.slice an n cn, .slice am 0 cm] 25 (0, 0)) := by rw [hW2]; exact heap_alloc_new _ _
  have HA := Lib.hid (And.intro hln (And.intro (hN.on hB2) (And.intro (hT.on hB2) (And.intro hrow (And.intro (on1R hB1 hB2) n2)))))
  clear c4 hN hT hrow hB1 hB2 n2 hbase
  go_upto_region 4 with fail
  rw [← hW2]
  clear hW2
  go_wp2
  go_loopw [6, 7] (fun v i wr => WrI W2 n v i wr) (fun _ i _ => n + 1 - (intOf i).toNat)
  case atStart => exact ⟨0, Nat.zero_le _, rfl, [], rfl, World.ownsRow_nil _ _ _ _, fun j u hu => by simp at hu, Below.refl _ _⟩
  case round =>
    obtain ⟨k, hk, rfl, C, hCl, hO, hC, hB⟩ := hrel
    by_cases hlt : k < n
    · have hle : ((k : Int) + 1 ≤ (n : Int)) := by omega
      have HK := Lib.hid (And.intro hCl (And.intro hO (And.intro hC hB)))
      have HM : Hid (k + 1 ≤ maxLen ∧ (k + 1) * 24 ≤ 140737488355328) := ⟨by unfold maxLen; omega, by omega⟩
      have hwi : IntKind.i64.wrap ((k : Int) + 1 + 1) = (k : Int) + 1 + 1 := by rw [IntKind.wrap_i64]; omega
      have hsz : W2.heap.size ≤ wr.heap.size := hB.size
      clear hCl hO hC hB
      go_wp2_with (at_builtin; refine wpList_append_own _ rfl (.tmp 25) (.tmp 29) 27 rfl W2.heap.size 28 i0 _ 1 24 Tryd.underlying27 hi0 hz0 hz1 hz2 rfl (by decide) u6 k C rfl ((HK.out.2.1.alloc _).alloc _) ⟨wr.heap.size + 1, 0, none⟩ 1 1 [.slice (some ⟨wr.heap.size, 0, none⟩) 2 2] rfl rfl (by have := new_at (wr.alloc (.cells #[.int .i64 ((k : Int) + 1), .int .i64 ((k : Int) + 1)] 3)) [.slice (some ⟨wr.heap.size, 0, none⟩) 2 2] 28; rw [World.size_alloc] at this; exact this) (by simp [Value.oneCell']) HM.out.1 HM.out.2 (by simp; omega) ?_; intro v1 w1 hown hgrow _)
      have R : WrI W2 n v1 (.int .i64 ((k : Int) + 1 + 1)) w1 := ⟨k + 1, by omega, by go_num, wrR_step HK.out.1 HK.out.2.1 HK.out.2.2.1 HK.out.2.2.2 hown hgrow⟩
      refine ⟨?_, ?_⟩
      · first | exact R | ((repeat apply Exists.intro); refine ⟨?_, rfl⟩; exact R)
      · simp [intOf]; omega
    · obtain rfl : k = n := by omega
      have hIW := wrR_isW ⟨C, hCl, hO, hC, hB⟩
      have hBA : Below wr.heap.size wr (wr.alloc (.cells #[.string ⟨#[107]⟩] 9)) := b_allocR (Below.refl _ _) _
      have hBW := on1R hB hBA
      obtain ⟨hln, hN, hT, hrow, hBw, n2⟩ := HA.out
      have n3 := (hB.block W1.heap.size (Array.getElem?_eq_some_iff.1 n2).1).trans n2
      have g0 := cell_at (i := 0) n3 rfl
      have g1 := cell_at (i := 1) n3 rfl
      have hge : gErr N [] = 0 := row_gErr (m := 0) hrow (by omega) (by omega)
      have hBT := on1R hBw hBW
      have HBT := Lib.hid hBT
      by_cases hin : k = 0 ∨ y = 0 ∨ y = 1
      · have c5 := pick_row hln (hN.on hBW) (hT.on hBW) hrow hge (row_szN hrow) (hIW.on hBA) hn y hin wr.heap.size 1 (by simp) (cell_k wr)
        by_cases hy : y < 0 ∨ 1 < y
        · obtain rfl : k = 0 := by omega
          clear hIW hBA hBW hN hT hrow n2 n3 hge hBT hO hC hB
          by_cases hy1 : y < 0
          · go_wp2_with (go_at_call 5; refine c5.mono ?_; rintro e W4 ⟨v4, rfl, hB4, _⟩)
            go_ret
            exact ⟨rfl, on1R HBT.out hB4⟩
          · have hy2 : 1 < y := by omega
            go_wp2_with (go_at_call 5; refine c5.mono ?_; rintro e W4 ⟨v4, rfl, hB4, _⟩)
            go_ret
            exact ⟨rfl, on1R HBT.out hB4⟩
        · have hy1 : ¬ y < 0 := by omega
          have hy2 : ¬ 1 < y := by omega
          clear hIW hBA hBW hN hT hrow n2 n3 hge hBT hO hC hB hy hin
          go_wp2_with (go_at_call 5; refine c5.mono ?_; rintro e W4 ⟨v4, rfl, hB4, WW, hWW, hPk⟩; refine Hid.out ?_)
          refine Lib.hid ?_
          obtain ⟨L, hL, hIR, hrc⟩ := pkR_isRs hPk
          obtain ⟨_, hsz, s, hs1, hs2⟩ := rows_ok hL hn hrc
          have c7 := sum_any hIR hsz (by rw [hL]; unfold maxLen; omega) ⟨#[107]⟩ (by decide)
          rw [show (⟨#[107]⟩ : ByteArray).data.toList = [107] from rfl, hs1, errV_0] at c7
          obtain ⟨al, cl, rfl, _⟩ := hIR
          rw [hL] at c7 ⊢
          have hb1 : (k : Int) * ((k : Int) + 1) ≤ 2550 := by
            have : k * (k + 1) ≤ 50 * 51 := Nat.mul_le_mul hn (by omega)
            have e : (k : Int) * ((k : Int) + 1) = ((k * (k + 1) : Nat) : Int) := by simp
            omega
          have hb0 : 0 ≤ (k : Int) * ((k : Int) + 1) := Int.mul_nonneg (by omega) (by omega)
          have hw1 : IntKind.i64.wrap ((k : Int) + 1) = (k : Int) + 1 := by rw [IntKind.wrap_i64]; omega
          have hw2 : IntKind.i64.wrap ((k : Int) * ((k : Int) + 1)) = (k : Int) * ((k : Int) + 1) := by rw [IntKind.wrap_i64]; omega
          generalize hz : (k : Int) * ((k : Int) + 1) = z at hw2 hs2 hb0 hb1
          have hq : z.tdiv 2 = s := by rw [← hs2]; exact Int.mul_tdiv_cancel_left s (by decide)
          have hw3 : IntKind.i64.wrap s = s := by rw [IntKind.wrap_i64]; omega
          have HB4 := Lib.hid (on1R HBT.out hB4)
          clear c5 hPk hsz hs1 hs2 hrc hB4 hWW hb0 hb1
          go_wp2_with (go_at_call 7; refine c7.mono ?_; rintro e W5 ⟨rfl, hB5⟩)
          go_ret
          exact ⟨ret_bool (by simp), on1R HB4.out hB5⟩
      · have hp : 0 < k := by omega
        have hk0 : ((k : Int) == 0) = false := by rw [beq_eq_false_iff_ne]; omega
        have hy : y < 0 ∨ 1 < y := by omega
        have c5 := pick_out hln (hN.on hBW) (hT.on hBW) hrow hge (row_szN hrow) (hIW.on hBA) hn hp y hy wr.heap.size 1 (vk := .nilIface)
        have ce := fun (X : World) (hX : Below w.heap.size w X) => error_gen 1 1 X (hndOn HG.out hX)
        rw [errV_1, show ((1 : Int) == 1) = true from rfl] at ce
        clear hIW hBA hBW hN hT hrow n2 n3 hge hBT hO hC hB hin
        by_cases hy1 : y < 0
        · clear hy
          go_wp2_with (first | (go_at_call 5; refine c5.mono ?_; rintro e W4 ⟨rfl, hB4⟩; have HB4 := Lib.hid (on1R HBT.out hB4); clear hB4) | (go_at_call 6; refine (ce W4 HB4.out).mono ?_; rintro e W5 ⟨rfl, hB5⟩))
          go_ret
          exact ⟨rfl, on1R HB4.out hB5⟩
        · have hy2 : 1 < y := by omega
          clear hy
          go_wp2_with (first | (go_at_call 5; refine c5.mono ?_; rintro e W4 ⟨rfl, hB4⟩; have HB4 := Lib.hid (on1R HBT.out hB4); clear hB4) | (go_at_call 6; refine (ce W4 HB4.out).mono ?_; rintro e W5 ⟨rfl, hB5⟩))
          go_ret
          exact ⟨rfl, on1R HB4.out hB5⟩
theorem rsum_any (x y : Int) (w : World) (hg : Hnd w) : Calls Tryd.prog 3 #[.int .i64 x, .int .i64 y] w fun e w' => e = .returned (.bool true) ∧ Below w.heap.size w w' := by
  by_cases h : x < 0 ∨ 50 < x
  · exact rsum_off x y h w
  · obtain ⟨n, rfl⟩ := Int.eq_ofNat_of_zero_le (a := x) (by omega)
    exact rsum_in n (by omega) y w hg
end Go.Proofs.YtodddcacngjadaaDoor
