/-
  The walk of the document's text of a path.
-/
import Derived.Test.YtmgkdghkenpmbaaGreatDoorKtA
namespace Go.Proofs.YtmgkdghkenpmbaaGreatDoor
open Go.RowKit
set_option linter.unusedVariables false
set_option linter.unusedSimpArgs false

set_option maxHeartbeats 8000000 in
set_option maxRecDepth 100000 in
theorem askText_any {v : Value} {M : List Sp} {w : World} (h : IsSp w v M) (he : askE (M.map Sp.st) = 0) :
    Calls Tryz.prog 11 #[v] w fun e w' => e = .returned (.string (bs (askT (M.map Sp.st)))) ∧ Below w.heap.size w w' := by
  obtain ⟨h0, h6, hst⟩ := askE_right he
  have hok := stsP_right hst
  have hln := askT_len he
  rw [askT_txs] at hln ⊢
  rw [List.length_map] at h6
  have h0 : ¬ M = [] := by simpa using h0
  have HOK : Hid (∀ p ∈ M, StOk p.st) := fun p hp => hok p.st (List.mem_map_of_mem hp)
  have HLN := Lib.hid hln
  obtain ⟨av, cv, rfl, hcells⟩ := h
  obtain ⟨b, off, rfl, hbl, hL⟩ := hcells.resolve_left h0
  have HL := Lib.hid hL
  clear he hst hok hln hL hcells h0
  go_enter Tryz.func11, Tryz.ntmps11
  go_wp2
  go_loopw [3, 4] (fun s3 i wr => ∃ (k : Nat) (acc : Nm), k ≤ M.length ∧ s3 = .string (bs acc) ∧ i = .int .i64 (k : Int) ∧ txs true (M.map Sp.st) = acc ++ txs (decide (k = 0)) ((M.map Sp.st).drop k) ∧ Below w.heap.size w wr) (fun s3 i wr => M.length - (intOf i).toNat)
  case atStart => exact ⟨0, [], Nat.zero_le _, rfl, rfl, rfl, Below.refl _ _⟩
  case round =>
    obtain ⟨k, acc, hk, rfl, rfl, he, hB⟩ := hrel
    rename World => wo
    have HB := Lib.hid hB
    by_cases hlt : k < M.length
    · obtain ⟨x, hx⟩ : ∃ x, M[k]? = some x := ⟨_, List.getElem?_eq_getElem hlt⟩
      have hxs := HOK.out x (List.mem_of_getElem? hx)
      have hd := txs_drop hx (decide (k = 0))
      obtain ⟨⟨l0, l1, l2, l3⟩, hT⟩ := (HL.out.on hbl hB) k x hx
      obtain ⟨ta, tc, et⟩ := hT.sl
      obtain ⟨xs, xv⟩ := x
      simp only at et l0 l1 l2 l3 hT hxs hd
      subst et
      have HT0 := Lib.hid hT
      have HT := Lib.hid (hT.on ((Below.refl _ wo).alloc (Nat.le_refl _) (boxP xs ta xs.ts.length tc)))
      rw [hd] at he
      have hal : acc.length ≤ 100000 := by
        have := congrArg List.length he
        have h2 := HLN.out
        simp only [List.length_append] at this; omega
      have hkl := name_len hxs.1
      have hbdl := hxs.2.1
      have htl := hxs.2.2.1
      have htsl := tsT_len hxs.2.2.2 htl
      have HXS := Lib.hid hxs.2.2.2
      have HE := Lib.hid he
      clear hT hB hx hxs hd he
      rcases Nat.eq_zero_or_pos k with hk1 | hk1
      · have hf : decide (k = 0) = true := by simpa using hk1
        rw [hf] at HE
        have kb1 : ¬ 0 < k := by omega
        have kb2 : decide ((0 : Int) < (k : Int)) = false := by simp; omega
        have kb3 : ¬ (0 : Int) < (k : Int) := by omega
        obtain ⟨z4, H4, q4, k4⟩ := catX acc xs.kd (by omega) (by omega)
        have HZ : Hid (z4 = acc ++ tb true xs ++ xs.kd) := by show _ = _; rw [H4.out]; simp [tb]
        have hz : z4.length ≤ 100100 := by omega
        clear H4 q4 hk1 hf
        go_wp2
        go_loopw [3, 6] (fun s3 i wr => ∃ (j : Nat) (cur : Nm), j ≤ xs.ts.length ∧ s3 = .string (bs cur) ∧ i = .int .i64 (j : Int) ∧ z4 ++ tsT xs.ts = cur ++ tq (decide (j = 0)) (xs.ts.drop j) ++ tend xs.ts ∧ Below (wo.alloc (boxP xs ta xs.ts.length tc)).heap.size (wo.alloc (boxP xs ta xs.ts.length tc)) wr) (fun s3 i wr => xs.ts.length - (intOf i).toNat)
        case atStart => exact ⟨0, z4, Nat.zero_le _, rfl, rfl, by rw [tsT_tq]; simp, Below.refl _ _⟩
        case round =>
          obtain ⟨j, cur, hj, rfl, rfl, hf, hB⟩ := hrel
          rename World => wi
          have HF := Lib.hid hf
          have HBi := Lib.hid hB
          have p3 : wi.cell? ⟨wo.heap.size, 3, none⟩ = some (.slice ta xs.ts.length tc) := cell_at ((hB.block wo.heap.size (by simp)).trans (new_block wo _ 29)) rfl
          have hcl : cur.length ≤ 100600 := by
            have := congrArg List.length hf
            simp only [List.length_append] at this; omega
          clear hf
          by_cases hjt : j < xs.ts.length
          · obtain ⟨x, hx⟩ : ∃ x, xs.ts[j]? = some x := ⟨_, List.getElem?_eq_getElem hjt⟩
            have hxo := HXS.out x (List.mem_of_getElem? hx)
            have hnl := name_len hxo.1
            obtain ⟨ao, c', ee, h0 | ⟨bb, boff, rfl, hbbl, hLb⟩⟩ := HT.out.on hB
            · rw [h0] at hjt; simp at hjt
            injection ee with e1 e2 e3
            subst e1
            obtain ⟨m0, m1, m2, m3, m4⟩ := hLb j x hx
            have hd := tq_drop hx (decide (j = 0))
            clear hLb hB e2 e3 hbbl k4
            rcases Nat.eq_zero_or_pos j with hj1 | hj1
            · have hjf : decide (j = 0) = true := by simpa using hj1
              rw [hjf] at hd
              have jb1 : ((j : Int) == 0) = true := by rw [beq_iff_eq]; omega
              clear hj1
              obtain ⟨y1, H1, q1, k1⟩ := catX cur [91] (by omega) (by decide)
              obtain ⟨y2, H2, q2, k2⟩ := catX y1 x.nm (by rw [q1]; simp; omega) (by omega)
              rw [show bs [91] = ⟨#[91]⟩ from rfl] at k1
              rcases how_ok hxo.2 with ⟨h4, h5, h7, h8⟩ | ⟨h4, hv⟩
              · have HE2 : Hid (z4 ++ tsT xs.ts = y2 ++ tq false (xs.ts.drop (j + 1)) ++ tend xs.ts) := by
                  show _ = _; rw [HF.out, hjf, hd, H2.out, H1.out]; simp [tstT, h4]
                rw [h4] at m1
                clear H1 H2 q1 q2 hd hx hxo h4 h5 h7 h8 hjf
                go_wp2
                go_roundw
                case rel => exact ⟨j + 1, _, by omega, rfl, by go_num, HE2.out, b_alloc HBi.out _⟩
                case measure => simp [intOf]; omega
              · have hsl := show_len hv
                have cS := fun W => showB x.t x.n x.s hv W
                obtain ⟨y3, H3, q3, k3⟩ := catX y2 [sg x.hw] (by rw [q2, q1]; simp; omega) (show 1 ≤ 4000000 by decide)
                obtain ⟨y4, H4, q4, k4⟩ := catX y3 (showL x.t x.n x.s) (by rw [q3, q2, q1]; simp; omega) (by omega)
                have HE2 : Hid (z4 ++ tsT xs.ts = y4 ++ tq false (xs.ts.drop (j + 1)) ++ tend xs.ts) := by
                  show _ = _; rw [HF.out, hjf, hd, H4.out, H3.out, H2.out, H1.out]; simp [tstT, show ¬ x.hw = 4 by omega]
                generalize showL x.t x.n x.s = sl at cS k4
                clear H1 H2 H3 H4 q1 q2 q3 q4 hd hx hxo hjf hsl hv
                rcases h4 with h4 | h4 | h4
                · rw [h4] at m1 k3
                  rw [show bs [sg 1] = ⟨#[61]⟩ from rfl] at k3
                  have ex : (⟨#[61, 33, 60]⟩ : ByteArray).extract 0 1 = ⟨#[61]⟩ := by rfl
                  have k3x : ∀ w, (Op.stringOp .add (bs y2) ((⟨#[61, 33, 60]⟩ : ByteArray).extract 0 1)).run Tryz.prog w = .ok (.string (bs y3)) w := by rw [ex]; exact k3
                  have HS := Lib.hid (fun (W : World) (hW : Below (wi.alloc (.cells #[.string (bs x.nm), .int .i64 1, .int .i64 x.t, .int .i64 x.n, .string (bs x.s)] 33)).heap.size (wi.alloc (.cells #[.string (bs x.nm), .int .i64 1, .int .i64 x.t, .int .i64 x.n, .string (bs x.s)] 33)) W) => And.intro (on2 HBi.out hW) (show W.cell? ⟨wi.heap.size, 1, none⟩ = some (.int .i64 1) from cell_at ((hW.block wi.heap.size (by simp)).trans (new_block wi _ 33)) rfl))
                  go_wp2_with (go_at_call 21; refine (cS _).mono ?_; rintro e W2 ⟨rfl, hB2⟩; obtain ⟨hb2, p1⟩ := HS.out W2 hB2; have HB2 := Lib.hid hb2; clear hB2 hb2)
                  go_roundw
                  case rel => exact ⟨j + 1, _, by omega, rfl, by go_num, HE2.out, HB2.out⟩
                  case measure => simp [intOf]; omega
                · rw [h4] at m1 k3
                  rw [show bs [sg 2] = ⟨#[33]⟩ from rfl] at k3
                  have ex : (⟨#[61, 33, 60]⟩ : ByteArray).extract 1 2 = ⟨#[33]⟩ := by rfl
                  have k3x : ∀ w, (Op.stringOp .add (bs y2) ((⟨#[61, 33, 60]⟩ : ByteArray).extract 1 2)).run Tryz.prog w = .ok (.string (bs y3)) w := by rw [ex]; exact k3
                  have HS := Lib.hid (fun (W : World) (hW : Below (wi.alloc (.cells #[.string (bs x.nm), .int .i64 2, .int .i64 x.t, .int .i64 x.n, .string (bs x.s)] 33)).heap.size (wi.alloc (.cells #[.string (bs x.nm), .int .i64 2, .int .i64 x.t, .int .i64 x.n, .string (bs x.s)] 33)) W) => And.intro (on2 HBi.out hW) (show W.cell? ⟨wi.heap.size, 1, none⟩ = some (.int .i64 2) from cell_at ((hW.block wi.heap.size (by simp)).trans (new_block wi _ 33)) rfl))
                  go_wp2_with (go_at_call 21; refine (cS _).mono ?_; rintro e W2 ⟨rfl, hB2⟩; obtain ⟨hb2, p1⟩ := HS.out W2 hB2; have HB2 := Lib.hid hb2; clear hB2 hb2)
                  go_roundw
                  case rel => exact ⟨j + 1, _, by omega, rfl, by go_num, HE2.out, HB2.out⟩
                  case measure => simp [intOf]; omega
                · rw [h4] at m1 k3
                  rw [show bs [sg 3] = ⟨#[60]⟩ from rfl] at k3
                  have ex : (⟨#[61, 33, 60]⟩ : ByteArray).extract 2 3 = ⟨#[60]⟩ := by rfl
                  have k3x : ∀ w, (Op.stringOp .add (bs y2) ((⟨#[61, 33, 60]⟩ : ByteArray).extract 2 3)).run Tryz.prog w = .ok (.string (bs y3)) w := by rw [ex]; exact k3
                  have HS := Lib.hid (fun (W : World) (hW : Below (wi.alloc (.cells #[.string (bs x.nm), .int .i64 3, .int .i64 x.t, .int .i64 x.n, .string (bs x.s)] 33)).heap.size (wi.alloc (.cells #[.string (bs x.nm), .int .i64 3, .int .i64 x.t, .int .i64 x.n, .string (bs x.s)] 33)) W) => And.intro (on2 HBi.out hW) (show W.cell? ⟨wi.heap.size, 1, none⟩ = some (.int .i64 3) from cell_at ((hW.block wi.heap.size (by simp)).trans (new_block wi _ 33)) rfl))
                  go_wp2_with (go_at_call 21; refine (cS _).mono ?_; rintro e W2 ⟨rfl, hB2⟩; obtain ⟨hb2, p1⟩ := HS.out W2 hB2; have HB2 := Lib.hid hb2; clear hB2 hb2)
                  go_roundw
                  case rel => exact ⟨j + 1, _, by omega, rfl, by go_num, HE2.out, HB2.out⟩
                  case measure => simp [intOf]; omega
            · have hjf : decide (j = 0) = false := by simp; omega
              rw [hjf] at hd
              have jb1 : ((j : Int) == 0) = false := by rw [beq_eq_false_iff_ne]; omega
              obtain ⟨y1, H1, q1, k1⟩ := catX cur [44] (by omega) (by decide)
              obtain ⟨y2, H2, q2, k2⟩ := catX y1 x.nm (by rw [q1]; simp; omega) (by omega)
              rw [show bs [44] = ⟨#[44]⟩ from rfl] at k1
              rcases how_ok hxo.2 with ⟨h4, h5, h7, h8⟩ | ⟨h4, hv⟩
              · have HE2 : Hid (z4 ++ tsT xs.ts = y2 ++ tq false (xs.ts.drop (j + 1)) ++ tend xs.ts) := by
                  show _ = _; rw [HF.out, hjf, hd, H2.out, H1.out]; simp [tstT, h4]
                rw [h4] at m1
                clear H1 H2 q1 q2 hd hx hxo h4 h5 h7 h8 hjf
                go_wp2
                go_roundw
                case rel => exact ⟨j + 1, _, by omega, rfl, by go_num, HE2.out, b_alloc HBi.out _⟩
                case measure => simp [intOf]; omega
              · have hsl := show_len hv
                have cS := fun W => showB x.t x.n x.s hv W
                obtain ⟨y3, H3, q3, k3⟩ := catX y2 [sg x.hw] (by rw [q2, q1]; simp; omega) (show 1 ≤ 4000000 by decide)
                obtain ⟨y4, H4, q4, k4⟩ := catX y3 (showL x.t x.n x.s) (by rw [q3, q2, q1]; simp; omega) (by omega)
                have HE2 : Hid (z4 ++ tsT xs.ts = y4 ++ tq false (xs.ts.drop (j + 1)) ++ tend xs.ts) := by
                  show _ = _; rw [HF.out, hjf, hd, H4.out, H3.out, H2.out, H1.out]; simp [tstT, show ¬ x.hw = 4 by omega]
                generalize showL x.t x.n x.s = sl at cS k4
                clear H1 H2 H3 H4 q1 q2 q3 q4 hd hx hxo hjf hsl hv
                rcases h4 with h4 | h4 | h4
                · rw [h4] at m1 k3
                  rw [show bs [sg 1] = ⟨#[61]⟩ from rfl] at k3
                  have ex : (⟨#[61, 33, 60]⟩ : ByteArray).extract 0 1 = ⟨#[61]⟩ := by rfl
                  have k3x : ∀ w, (Op.stringOp .add (bs y2) ((⟨#[61, 33, 60]⟩ : ByteArray).extract 0 1)).run Tryz.prog w = .ok (.string (bs y3)) w := by rw [ex]; exact k3
                  have HS := Lib.hid (fun (W : World) (hW : Below (wi.alloc (.cells #[.string (bs x.nm), .int .i64 1, .int .i64 x.t, .int .i64 x.n, .string (bs x.s)] 33)).heap.size (wi.alloc (.cells #[.string (bs x.nm), .int .i64 1, .int .i64 x.t, .int .i64 x.n, .string (bs x.s)] 33)) W) => And.intro (on2 HBi.out hW) (show W.cell? ⟨wi.heap.size, 1, none⟩ = some (.int .i64 1) from cell_at ((hW.block wi.heap.size (by simp)).trans (new_block wi _ 33)) rfl))
                  go_wp2_with (go_at_call 21; refine (cS _).mono ?_; rintro e W2 ⟨rfl, hB2⟩; obtain ⟨hb2, p1⟩ := HS.out W2 hB2; have HB2 := Lib.hid hb2; clear hB2 hb2)
                  go_roundw
                  case rel => exact ⟨j + 1, _, by omega, rfl, by go_num, HE2.out, HB2.out⟩
                  case measure => simp [intOf]; omega
                · rw [h4] at m1 k3
                  rw [show bs [sg 2] = ⟨#[33]⟩ from rfl] at k3
                  have ex : (⟨#[61, 33, 60]⟩ : ByteArray).extract 1 2 = ⟨#[33]⟩ := by rfl
                  have k3x : ∀ w, (Op.stringOp .add (bs y2) ((⟨#[61, 33, 60]⟩ : ByteArray).extract 1 2)).run Tryz.prog w = .ok (.string (bs y3)) w := by rw [ex]; exact k3
                  have HS := Lib.hid (fun (W : World) (hW : Below (wi.alloc (.cells #[.string (bs x.nm), .int .i64 2, .int .i64 x.t, .int .i64 x.n, .string (bs x.s)] 33)).heap.size (wi.alloc (.cells #[.string (bs x.nm), .int .i64 2, .int .i64 x.t, .int .i64 x.n, .string (bs x.s)] 33)) W) => And.intro (on2 HBi.out hW) (show W.cell? ⟨wi.heap.size, 1, none⟩ = some (.int .i64 2) from cell_at ((hW.block wi.heap.size (by simp)).trans (new_block wi _ 33)) rfl))
                  go_wp2_with (go_at_call 21; refine (cS _).mono ?_; rintro e W2 ⟨rfl, hB2⟩; obtain ⟨hb2, p1⟩ := HS.out W2 hB2; have HB2 := Lib.hid hb2; clear hB2 hb2)
                  go_roundw
                  case rel => exact ⟨j + 1, _, by omega, rfl, by go_num, HE2.out, HB2.out⟩
                  case measure => simp [intOf]; omega
                · rw [h4] at m1 k3
                  rw [show bs [sg 3] = ⟨#[60]⟩ from rfl] at k3
                  have ex : (⟨#[61, 33, 60]⟩ : ByteArray).extract 2 3 = ⟨#[60]⟩ := by rfl
                  have k3x : ∀ w, (Op.stringOp .add (bs y2) ((⟨#[61, 33, 60]⟩ : ByteArray).extract 2 3)).run Tryz.prog w = .ok (.string (bs y3)) w := by rw [ex]; exact k3
                  have HS := Lib.hid (fun (W : World) (hW : Below (wi.alloc (.cells #[.string (bs x.nm), .int .i64 3, .int .i64 x.t, .int .i64 x.n, .string (bs x.s)] 33)).heap.size (wi.alloc (.cells #[.string (bs x.nm), .int .i64 3, .int .i64 x.t, .int .i64 x.n, .string (bs x.s)] 33)) W) => And.intro (on2 HBi.out hW) (show W.cell? ⟨wi.heap.size, 1, none⟩ = some (.int .i64 3) from cell_at ((hW.block wi.heap.size (by simp)).trans (new_block wi _ 33)) rfl))
                  go_wp2_with (go_at_call 21; refine (cS _).mono ?_; rintro e W2 ⟨rfl, hB2⟩; obtain ⟨hb2, p1⟩ := HS.out W2 hB2; have HB2 := Lib.hid hb2; clear hB2 hb2)
                  go_roundw
                  case rel => exact ⟨j + 1, _, by omega, rfl, by go_num, HE2.out, HB2.out⟩
                  case measure => simp [intOf]; omega
          · have hjn : j = xs.ts.length := by omega
            by_cases ht0 : xs.ts = []
            · have HE2 : Hid (txs true (M.map Sp.st) = cur ++ txs (decide (k + 1 = 0)) ((M.map Sp.st).drop (k + 1))) := by
                have h1 := HF.out
                rw [hjn, List.drop_length] at h1
                have h2 : z4 ++ tsT xs.ts = cur := by rw [h1]; simp [tq, tend, ht0]
                show _ = _; rw [HE.out, ← h2, HZ.out]; simp [kdT]
              have hl0 : xs.ts.length = 0 := by rw [ht0]; rfl
              have tb1 : ¬ 0 < xs.ts.length := by omega
              have tb2 : decide ((0 : Int) < (xs.ts.length : Int)) = false := by simp; omega
              clear hB hl0 ht0
              go_wp2
              go_roundw
              case rel => exact ⟨k + 1, _, by omega, rfl, by go_num, HE2.out, on2 HB.out HBi.out⟩
              case measure => simp [intOf]; omega
            · obtain ⟨y1, H1, q1, k1⟩ := catX cur [93] (by omega) (by decide)
              have HE2 : Hid (txs true (M.map Sp.st) = y1 ++ txs (decide (k + 1 = 0)) ((M.map Sp.st).drop (k + 1))) := by
                have h1 := HF.out
                rw [hjn, List.drop_length] at h1
                have h2 : z4 ++ tsT xs.ts = y1 := by rw [h1, H1.out]; simp [tq, tend, ht0]
                show _ = _; rw [HE.out, ← h2, HZ.out]; simp [kdT]
              rw [show bs [93] = ⟨#[93]⟩ from rfl] at k1
              have tb1 : 0 < xs.ts.length := List.length_pos_iff.2 ht0
              have tb2 : decide ((0 : Int) < (xs.ts.length : Int)) = true := by simp; omega
              clear hB ht0 H1 q1
              go_wp2
              go_roundw
              case rel => exact ⟨k + 1, _, by omega, rfl, by go_num, HE2.out, on2 HB.out HBi.out⟩
              case measure => simp [intOf]; omega
      · have hf : decide (k = 0) = false := by simp; omega
        rw [hf] at HE
        have kb1 : 0 < k := hk1
        have kb2 : decide ((0 : Int) < (k : Int)) = true := by simp; omega
        have kb3 : (0 : Int) < (k : Int) := by omega
        cases hbk : xs.back with
        | true =>
          rw [hbk] at l1
          obtain ⟨y1, H1, q1, k1⟩ := catX acc [32, 60, 45] (by omega) (by decide)
          obtain ⟨y2, H2, q2, k2⟩ := catX y1 xs.bd (by rw [q1]; simp; omega) (by omega)
          obtain ⟨y3, H3, q3, k3⟩ := catX y2 [45, 32] (by rw [q2, q1]; simp; omega) (by decide)
          obtain ⟨z4, H4, q4, k4⟩ := catX y3 xs.kd (by rw [q3, q2, q1]; simp; omega) (by omega)
          have HZ : Hid (z4 = acc ++ tb false xs ++ xs.kd) := by show _ = _; rw [H4.out, H3.out, H2.out, H1.out]; simp [tb, bdT, ar0, ar1, hbk]
          have hz : z4.length ≤ 100100 := by rw [q4, q3, q2, q1]; simp; omega
          rw [show bs [32, 60, 45] = ⟨#[32, 60, 45]⟩ from rfl] at k1
          rw [show bs [45, 32] = ⟨#[45, 32]⟩ from rfl] at k3
          clear H1 H2 H3 H4 q1 q2 q3 q4 hk1 hf hbk
          have HT := Lib.hid (HT0.out.on ((Below.refl _ wo).alloc (Nat.le_refl _) (.cells #[.string (bs xs.bd), .bool true, .string (bs xs.kd), .slice ta xs.ts.length tc] 29)))
          go_wp2
          go_loopw [3, 6] (fun s3 i wr => ∃ (j : Nat) (cur : Nm), j ≤ xs.ts.length ∧ s3 = .string (bs cur) ∧ i = .int .i64 (j : Int) ∧ z4 ++ tsT xs.ts = cur ++ tq (decide (j = 0)) (xs.ts.drop j) ++ tend xs.ts ∧ Below (wo.alloc (.cells #[.string (bs xs.bd), .bool true, .string (bs xs.kd), .slice ta xs.ts.length tc] 29)).heap.size (wo.alloc (.cells #[.string (bs xs.bd), .bool true, .string (bs xs.kd), .slice ta xs.ts.length tc] 29)) wr) (fun s3 i wr => xs.ts.length - (intOf i).toNat)
          case atStart => exact ⟨0, z4, Nat.zero_le _, rfl, rfl, by rw [tsT_tq]; simp, Below.refl _ _⟩
          case round =>
            obtain ⟨j, cur, hj, rfl, rfl, hf, hB⟩ := hrel
            rename World => wi
            have HF := Lib.hid hf
            have HBi := Lib.hid hB
            have p3 : wi.cell? ⟨wo.heap.size, 3, none⟩ = some (.slice ta xs.ts.length tc) := cell_at ((hB.block wo.heap.size (by simp)).trans (new_block wo _ 29)) rfl
            have hcl : cur.length ≤ 100600 := by
              have := congrArg List.length hf
              simp only [List.length_append] at this; omega
            clear hf
            by_cases hjt : j < xs.ts.length
            · obtain ⟨x, hx⟩ : ∃ x, xs.ts[j]? = some x := ⟨_, List.getElem?_eq_getElem hjt⟩
              have hxo := HXS.out x (List.mem_of_getElem? hx)
              have hnl := name_len hxo.1
              obtain ⟨ao, c', ee, h0 | ⟨bb, boff, rfl, hbbl, hLb⟩⟩ := HT.out.on hB
              · rw [h0] at hjt; simp at hjt
              injection ee with e1 e2 e3
              subst e1
              obtain ⟨m0, m1, m2, m3, m4⟩ := hLb j x hx
              have hd := tq_drop hx (decide (j = 0))
              clear hLb hB e2 e3 hbbl k4
              rcases Nat.eq_zero_or_pos j with hj1 | hj1
              · have hjf : decide (j = 0) = true := by simpa using hj1
                rw [hjf] at hd
                have jb1 : ((j : Int) == 0) = true := by rw [beq_iff_eq]; omega
                clear hj1
                obtain ⟨y1, H1, q1, k1⟩ := catX cur [91] (by omega) (by decide)
                obtain ⟨y2, H2, q2, k2⟩ := catX y1 x.nm (by rw [q1]; simp; omega) (by omega)
                rw [show bs [91] = ⟨#[91]⟩ from rfl] at k1
                rcases how_ok hxo.2 with ⟨h4, h5, h7, h8⟩ | ⟨h4, hv⟩
                · have HE2 : Hid (z4 ++ tsT xs.ts = y2 ++ tq false (xs.ts.drop (j + 1)) ++ tend xs.ts) := by
                    show _ = _; rw [HF.out, hjf, hd, H2.out, H1.out]; simp [tstT, h4]
                  rw [h4] at m1
                  clear H1 H2 q1 q2 hd hx hxo h4 h5 h7 h8 hjf
                  go_wp2
                  go_roundw
                  case rel => exact ⟨j + 1, _, by omega, rfl, by go_num, HE2.out, b_alloc HBi.out _⟩
                  case measure => simp [intOf]; omega
                · have hsl := show_len hv
                  have cS := fun W => showB x.t x.n x.s hv W
                  obtain ⟨y3, H3, q3, k3⟩ := catX y2 [sg x.hw] (by rw [q2, q1]; simp; omega) (show 1 ≤ 4000000 by decide)
                  obtain ⟨y4, H4, q4, k4⟩ := catX y3 (showL x.t x.n x.s) (by rw [q3, q2, q1]; simp; omega) (by omega)
                  have HE2 : Hid (z4 ++ tsT xs.ts = y4 ++ tq false (xs.ts.drop (j + 1)) ++ tend xs.ts) := by
                    show _ = _; rw [HF.out, hjf, hd, H4.out, H3.out, H2.out, H1.out]; simp [tstT, show ¬ x.hw = 4 by omega]
                  generalize showL x.t x.n x.s = sl at cS k4
                  clear H1 H2 H3 H4 q1 q2 q3 q4 hd hx hxo hjf hsl hv
                  rcases h4 with h4 | h4 | h4
                  · rw [h4] at m1 k3
                    rw [show bs [sg 1] = ⟨#[61]⟩ from rfl] at k3
                    have ex : (⟨#[61, 33, 60]⟩ : ByteArray).extract 0 1 = ⟨#[61]⟩ := by rfl
                    have k3x : ∀ w, (Op.stringOp .add (bs y2) ((⟨#[61, 33, 60]⟩ : ByteArray).extract 0 1)).run Tryz.prog w = .ok (.string (bs y3)) w := by rw [ex]; exact k3
                    have HS := Lib.hid (fun (W : World) (hW : Below (wi.alloc (.cells #[.string (bs x.nm), .int .i64 1, .int .i64 x.t, .int .i64 x.n, .string (bs x.s)] 33)).heap.size (wi.alloc (.cells #[.string (bs x.nm), .int .i64 1, .int .i64 x.t, .int .i64 x.n, .string (bs x.s)] 33)) W) => And.intro (on2 HBi.out hW) (show W.cell? ⟨wi.heap.size, 1, none⟩ = some (.int .i64 1) from cell_at ((hW.block wi.heap.size (by simp)).trans (new_block wi _ 33)) rfl))
                    go_wp2_with (go_at_call 21; refine (cS _).mono ?_; rintro e W2 ⟨rfl, hB2⟩; obtain ⟨hb2, p1⟩ := HS.out W2 hB2; have HB2 := Lib.hid hb2; clear hB2 hb2)
                    go_roundw
                    case rel => exact ⟨j + 1, _, by omega, rfl, by go_num, HE2.out, HB2.out⟩
                    case measure => simp [intOf]; omega
                  · rw [h4] at m1 k3
                    rw [show bs [sg 2] = ⟨#[33]⟩ from rfl] at k3
                    have ex : (⟨#[61, 33, 60]⟩ : ByteArray).extract 1 2 = ⟨#[33]⟩ := by rfl
                    have k3x : ∀ w, (Op.stringOp .add (bs y2) ((⟨#[61, 33, 60]⟩ : ByteArray).extract 1 2)).run Tryz.prog w = .ok (.string (bs y3)) w := by rw [ex]; exact k3
                    have HS := Lib.hid (fun (W : World) (hW : Below (wi.alloc (.cells #[.string (bs x.nm), .int .i64 2, .int .i64 x.t, .int .i64 x.n, .string (bs x.s)] 33)).heap.size (wi.alloc (.cells #[.string (bs x.nm), .int .i64 2, .int .i64 x.t, .int .i64 x.n, .string (bs x.s)] 33)) W) => And.intro (on2 HBi.out hW) (show W.cell? ⟨wi.heap.size, 1, none⟩ = some (.int .i64 2) from cell_at ((hW.block wi.heap.size (by simp)).trans (new_block wi _ 33)) rfl))
                    go_wp2_with (go_at_call 21; refine (cS _).mono ?_; rintro e W2 ⟨rfl, hB2⟩; obtain ⟨hb2, p1⟩ := HS.out W2 hB2; have HB2 := Lib.hid hb2; clear hB2 hb2)
                    go_roundw
                    case rel => exact ⟨j + 1, _, by omega, rfl, by go_num, HE2.out, HB2.out⟩
                    case measure => simp [intOf]; omega
                  · rw [h4] at m1 k3
                    rw [show bs [sg 3] = ⟨#[60]⟩ from rfl] at k3
                    have ex : (⟨#[61, 33, 60]⟩ : ByteArray).extract 2 3 = ⟨#[60]⟩ := by rfl
                    have k3x : ∀ w, (Op.stringOp .add (bs y2) ((⟨#[61, 33, 60]⟩ : ByteArray).extract 2 3)).run Tryz.prog w = .ok (.string (bs y3)) w := by rw [ex]; exact k3
                    have HS := Lib.hid (fun (W : World) (hW : Below (wi.alloc (.cells #[.string (bs x.nm), .int .i64 3, .int .i64 x.t, .int .i64 x.n, .string (bs x.s)] 33)).heap.size (wi.alloc (.cells #[.string (bs x.nm), .int .i64 3, .int .i64 x.t, .int .i64 x.n, .string (bs x.s)] 33)) W) => And.intro (on2 HBi.out hW) (show W.cell? ⟨wi.heap.size, 1, none⟩ = some (.int .i64 3) from cell_at ((hW.block wi.heap.size (by simp)).trans (new_block wi _ 33)) rfl))
                    go_wp2_with (go_at_call 21; refine (cS _).mono ?_; rintro e W2 ⟨rfl, hB2⟩; obtain ⟨hb2, p1⟩ := HS.out W2 hB2; have HB2 := Lib.hid hb2; clear hB2 hb2)
                    go_roundw
                    case rel => exact ⟨j + 1, _, by omega, rfl, by go_num, HE2.out, HB2.out⟩
                    case measure => simp [intOf]; omega
              · have hjf : decide (j = 0) = false := by simp; omega
                rw [hjf] at hd
                have jb1 : ((j : Int) == 0) = false := by rw [beq_eq_false_iff_ne]; omega
                obtain ⟨y1, H1, q1, k1⟩ := catX cur [44] (by omega) (by decide)
                obtain ⟨y2, H2, q2, k2⟩ := catX y1 x.nm (by rw [q1]; simp; omega) (by omega)
                rw [show bs [44] = ⟨#[44]⟩ from rfl] at k1
                rcases how_ok hxo.2 with ⟨h4, h5, h7, h8⟩ | ⟨h4, hv⟩
                · have HE2 : Hid (z4 ++ tsT xs.ts = y2 ++ tq false (xs.ts.drop (j + 1)) ++ tend xs.ts) := by
                    show _ = _; rw [HF.out, hjf, hd, H2.out, H1.out]; simp [tstT, h4]
                  rw [h4] at m1
                  clear H1 H2 q1 q2 hd hx hxo h4 h5 h7 h8 hjf
                  go_wp2
                  go_roundw
                  case rel => exact ⟨j + 1, _, by omega, rfl, by go_num, HE2.out, b_alloc HBi.out _⟩
                  case measure => simp [intOf]; omega
                · have hsl := show_len hv
                  have cS := fun W => showB x.t x.n x.s hv W
                  obtain ⟨y3, H3, q3, k3⟩ := catX y2 [sg x.hw] (by rw [q2, q1]; simp; omega) (show 1 ≤ 4000000 by decide)
                  obtain ⟨y4, H4, q4, k4⟩ := catX y3 (showL x.t x.n x.s) (by rw [q3, q2, q1]; simp; omega) (by omega)
                  have HE2 : Hid (z4 ++ tsT xs.ts = y4 ++ tq false (xs.ts.drop (j + 1)) ++ tend xs.ts) := by
                    show _ = _; rw [HF.out, hjf, hd, H4.out, H3.out, H2.out, H1.out]; simp [tstT, show ¬ x.hw = 4 by omega]
                  generalize showL x.t x.n x.s = sl at cS k4
                  clear H1 H2 H3 H4 q1 q2 q3 q4 hd hx hxo hjf hsl hv
                  rcases h4 with h4 | h4 | h4
                  · rw [h4] at m1 k3
                    rw [show bs [sg 1] = ⟨#[61]⟩ from rfl] at k3
                    have ex : (⟨#[61, 33, 60]⟩ : ByteArray).extract 0 1 = ⟨#[61]⟩ := by rfl
                    have k3x : ∀ w, (Op.stringOp .add (bs y2) ((⟨#[61, 33, 60]⟩ : ByteArray).extract 0 1)).run Tryz.prog w = .ok (.string (bs y3)) w := by rw [ex]; exact k3
                    have HS := Lib.hid (fun (W : World) (hW : Below (wi.alloc (.cells #[.string (bs x.nm), .int .i64 1, .int .i64 x.t, .int .i64 x.n, .string (bs x.s)] 33)).heap.size (wi.alloc (.cells #[.string (bs x.nm), .int .i64 1, .int .i64 x.t, .int .i64 x.n, .string (bs x.s)] 33)) W) => And.intro (on2 HBi.out hW) (show W.cell? ⟨wi.heap.size, 1, none⟩ = some (.int .i64 1) from cell_at ((hW.block wi.heap.size (by simp)).trans (new_block wi _ 33)) rfl))
                    go_wp2_with (go_at_call 21; refine (cS _).mono ?_; rintro e W2 ⟨rfl, hB2⟩; obtain ⟨hb2, p1⟩ := HS.out W2 hB2; have HB2 := Lib.hid hb2; clear hB2 hb2)
                    go_roundw
                    case rel => exact ⟨j + 1, _, by omega, rfl, by go_num, HE2.out, HB2.out⟩
                    case measure => simp [intOf]; omega
                  · rw [h4] at m1 k3
                    rw [show bs [sg 2] = ⟨#[33]⟩ from rfl] at k3
                    have ex : (⟨#[61, 33, 60]⟩ : ByteArray).extract 1 2 = ⟨#[33]⟩ := by rfl
                    have k3x : ∀ w, (Op.stringOp .add (bs y2) ((⟨#[61, 33, 60]⟩ : ByteArray).extract 1 2)).run Tryz.prog w = .ok (.string (bs y3)) w := by rw [ex]; exact k3
                    have HS := Lib.hid (fun (W : World) (hW : Below (wi.alloc (.cells #[.string (bs x.nm), .int .i64 2, .int .i64 x.t, .int .i64 x.n, .string (bs x.s)] 33)).heap.size (wi.alloc (.cells #[.string (bs x.nm), .int .i64 2, .int .i64 x.t, .int .i64 x.n, .string (bs x.s)] 33)) W) => And.intro (on2 HBi.out hW) (show W.cell? ⟨wi.heap.size, 1, none⟩ = some (.int .i64 2) from cell_at ((hW.block wi.heap.size (by simp)).trans (new_block wi _ 33)) rfl))
                    go_wp2_with (go_at_call 21; refine (cS _).mono ?_; rintro e W2 ⟨rfl, hB2⟩; obtain ⟨hb2, p1⟩ := HS.out W2 hB2; have HB2 := Lib.hid hb2; clear hB2 hb2)
                    go_roundw
                    case rel => exact ⟨j + 1, _, by omega, rfl, by go_num, HE2.out, HB2.out⟩
                    case measure => simp [intOf]; omega
                  · rw [h4] at m1 k3
                    rw [show bs [sg 3] = ⟨#[60]⟩ from rfl] at k3
                    have ex : (⟨#[61, 33, 60]⟩ : ByteArray).extract 2 3 = ⟨#[60]⟩ := by rfl
                    have k3x : ∀ w, (Op.stringOp .add (bs y2) ((⟨#[61, 33, 60]⟩ : ByteArray).extract 2 3)).run Tryz.prog w = .ok (.string (bs y3)) w := by rw [ex]; exact k3
                    have HS := Lib.hid (fun (W : World) (hW : Below (wi.alloc (.cells #[.string (bs x.nm), .int .i64 3, .int .i64 x.t, .int .i64 x.n, .string (bs x.s)] 33)).heap.size (wi.alloc (.cells #[.string (bs x.nm), .int .i64 3, .int .i64 x.t, .int .i64 x.n, .string (bs x.s)] 33)) W) => And.intro (on2 HBi.out hW) (show W.cell? ⟨wi.heap.size, 1, none⟩ = some (.int .i64 3) from cell_at ((hW.block wi.heap.size (by simp)).trans (new_block wi _ 33)) rfl))
                    go_wp2_with (go_at_call 21; refine (cS _).mono ?_; rintro e W2 ⟨rfl, hB2⟩; obtain ⟨hb2, p1⟩ := HS.out W2 hB2; have HB2 := Lib.hid hb2; clear hB2 hb2)
                    go_roundw
                    case rel => exact ⟨j + 1, _, by omega, rfl, by go_num, HE2.out, HB2.out⟩
                    case measure => simp [intOf]; omega
            · have hjn : j = xs.ts.length := by omega
              by_cases ht0 : xs.ts = []
              · have HE2 : Hid (txs true (M.map Sp.st) = cur ++ txs (decide (k + 1 = 0)) ((M.map Sp.st).drop (k + 1))) := by
                  have h1 := HF.out
                  rw [hjn, List.drop_length] at h1
                  have h2 : z4 ++ tsT xs.ts = cur := by rw [h1]; simp [tq, tend, ht0]
                  show _ = _; rw [HE.out, ← h2, HZ.out]; simp [kdT]
                have hl0 : xs.ts.length = 0 := by rw [ht0]; rfl
                have tb1 : ¬ 0 < xs.ts.length := by omega
                have tb2 : decide ((0 : Int) < (xs.ts.length : Int)) = false := by simp; omega
                clear hB hl0 ht0
                go_wp2
                go_roundw
                case rel => exact ⟨k + 1, _, by omega, rfl, by go_num, HE2.out, on2 HB.out HBi.out⟩
                case measure => simp [intOf]; omega
              · obtain ⟨y1, H1, q1, k1⟩ := catX cur [93] (by omega) (by decide)
                have HE2 : Hid (txs true (M.map Sp.st) = y1 ++ txs (decide (k + 1 = 0)) ((M.map Sp.st).drop (k + 1))) := by
                  have h1 := HF.out
                  rw [hjn, List.drop_length] at h1
                  have h2 : z4 ++ tsT xs.ts = y1 := by rw [h1, H1.out]; simp [tq, tend, ht0]
                  show _ = _; rw [HE.out, ← h2, HZ.out]; simp [kdT]
                rw [show bs [93] = ⟨#[93]⟩ from rfl] at k1
                have tb1 : 0 < xs.ts.length := List.length_pos_iff.2 ht0
                have tb2 : decide ((0 : Int) < (xs.ts.length : Int)) = true := by simp; omega
                clear hB ht0 H1 q1
                go_wp2
                go_roundw
                case rel => exact ⟨k + 1, _, by omega, rfl, by go_num, HE2.out, on2 HB.out HBi.out⟩
                case measure => simp [intOf]; omega
        | false =>
          rw [hbk] at l1
          obtain ⟨y1, H1, q1, k1⟩ := catX acc [32, 45] (by omega) (by decide)
          obtain ⟨y2, H2, q2, k2⟩ := catX y1 xs.bd (by rw [q1]; simp; omega) (by omega)
          obtain ⟨y3, H3, q3, k3⟩ := catX y2 [45, 62, 32] (by rw [q2, q1]; simp; omega) (by decide)
          obtain ⟨z4, H4, q4, k4⟩ := catX y3 xs.kd (by rw [q3, q2, q1]; simp; omega) (by omega)
          have HZ : Hid (z4 = acc ++ tb false xs ++ xs.kd) := by show _ = _; rw [H4.out, H3.out, H2.out, H1.out]; simp [tb, bdT, ar0, ar1, hbk]
          have hz : z4.length ≤ 100100 := by rw [q4, q3, q2, q1]; simp; omega
          rw [show bs [32, 45] = ⟨#[32, 45]⟩ from rfl] at k1
          rw [show bs [45, 62, 32] = ⟨#[45, 62, 32]⟩ from rfl] at k3
          clear H1 H2 H3 H4 q1 q2 q3 q4 hk1 hf hbk
          have HT := Lib.hid (HT0.out.on ((Below.refl _ wo).alloc (Nat.le_refl _) (.cells #[.string (bs xs.bd), .bool false, .string (bs xs.kd), .slice ta xs.ts.length tc] 29)))
          go_wp2
          go_loopw [3, 6] (fun s3 i wr => ∃ (j : Nat) (cur : Nm), j ≤ xs.ts.length ∧ s3 = .string (bs cur) ∧ i = .int .i64 (j : Int) ∧ z4 ++ tsT xs.ts = cur ++ tq (decide (j = 0)) (xs.ts.drop j) ++ tend xs.ts ∧ Below (wo.alloc (.cells #[.string (bs xs.bd), .bool false, .string (bs xs.kd), .slice ta xs.ts.length tc] 29)).heap.size (wo.alloc (.cells #[.string (bs xs.bd), .bool false, .string (bs xs.kd), .slice ta xs.ts.length tc] 29)) wr) (fun s3 i wr => xs.ts.length - (intOf i).toNat)
          case atStart => exact ⟨0, z4, Nat.zero_le _, rfl, rfl, by rw [tsT_tq]; simp, Below.refl _ _⟩
          case round =>
            obtain ⟨j, cur, hj, rfl, rfl, hf, hB⟩ := hrel
            rename World => wi
            have HF := Lib.hid hf
            have HBi := Lib.hid hB
            have p3 : wi.cell? ⟨wo.heap.size, 3, none⟩ = some (.slice ta xs.ts.length tc) := cell_at ((hB.block wo.heap.size (by simp)).trans (new_block wo _ 29)) rfl
            have hcl : cur.length ≤ 100600 := by
              have := congrArg List.length hf
              simp only [List.length_append] at this; omega
            clear hf
            by_cases hjt : j < xs.ts.length
            · obtain ⟨x, hx⟩ : ∃ x, xs.ts[j]? = some x := ⟨_, List.getElem?_eq_getElem hjt⟩
              have hxo := HXS.out x (List.mem_of_getElem? hx)
              have hnl := name_len hxo.1
              obtain ⟨ao, c', ee, h0 | ⟨bb, boff, rfl, hbbl, hLb⟩⟩ := HT.out.on hB
              · rw [h0] at hjt; simp at hjt
              injection ee with e1 e2 e3
              subst e1
              obtain ⟨m0, m1, m2, m3, m4⟩ := hLb j x hx
              have hd := tq_drop hx (decide (j = 0))
              clear hLb hB e2 e3 hbbl k4
              rcases Nat.eq_zero_or_pos j with hj1 | hj1
              · have hjf : decide (j = 0) = true := by simpa using hj1
                rw [hjf] at hd
                have jb1 : ((j : Int) == 0) = true := by rw [beq_iff_eq]; omega
                clear hj1
                obtain ⟨y1, H1, q1, k1⟩ := catX cur [91] (by omega) (by decide)
                obtain ⟨y2, H2, q2, k2⟩ := catX y1 x.nm (by rw [q1]; simp; omega) (by omega)
                rw [show bs [91] = ⟨#[91]⟩ from rfl] at k1
                rcases how_ok hxo.2 with ⟨h4, h5, h7, h8⟩ | ⟨h4, hv⟩
                · have HE2 : Hid (z4 ++ tsT xs.ts = y2 ++ tq false (xs.ts.drop (j + 1)) ++ tend xs.ts) := by
                    show _ = _; rw [HF.out, hjf, hd, H2.out, H1.out]; simp [tstT, h4]
                  rw [h4] at m1
                  clear H1 H2 q1 q2 hd hx hxo h4 h5 h7 h8 hjf
                  go_wp2
                  go_roundw
                  case rel => exact ⟨j + 1, _, by omega, rfl, by go_num, HE2.out, b_alloc HBi.out _⟩
                  case measure => simp [intOf]; omega
                · have hsl := show_len hv
                  have cS := fun W => showB x.t x.n x.s hv W
                  obtain ⟨y3, H3, q3, k3⟩ := catX y2 [sg x.hw] (by rw [q2, q1]; simp; omega) (show 1 ≤ 4000000 by decide)
                  obtain ⟨y4, H4, q4, k4⟩ := catX y3 (showL x.t x.n x.s) (by rw [q3, q2, q1]; simp; omega) (by omega)
                  have HE2 : Hid (z4 ++ tsT xs.ts = y4 ++ tq false (xs.ts.drop (j + 1)) ++ tend xs.ts) := by
                    show _ = _; rw [HF.out, hjf, hd, H4.out, H3.out, H2.out, H1.out]; simp [tstT, show ¬ x.hw = 4 by omega]
                  generalize showL x.t x.n x.s = sl at cS k4
                  clear H1 H2 H3 H4 q1 q2 q3 q4 hd hx hxo hjf hsl hv
                  rcases h4 with h4 | h4 | h4
                  · rw [h4] at m1 k3
                    rw [show bs [sg 1] = ⟨#[61]⟩ from rfl] at k3
                    have ex : (⟨#[61, 33, 60]⟩ : ByteArray).extract 0 1 = ⟨#[61]⟩ := by rfl
                    have k3x : ∀ w, (Op.stringOp .add (bs y2) ((⟨#[61, 33, 60]⟩ : ByteArray).extract 0 1)).run Tryz.prog w = .ok (.string (bs y3)) w := by rw [ex]; exact k3
                    have HS := Lib.hid (fun (W : World) (hW : Below (wi.alloc (.cells #[.string (bs x.nm), .int .i64 1, .int .i64 x.t, .int .i64 x.n, .string (bs x.s)] 33)).heap.size (wi.alloc (.cells #[.string (bs x.nm), .int .i64 1, .int .i64 x.t, .int .i64 x.n, .string (bs x.s)] 33)) W) => And.intro (on2 HBi.out hW) (show W.cell? ⟨wi.heap.size, 1, none⟩ = some (.int .i64 1) from cell_at ((hW.block wi.heap.size (by simp)).trans (new_block wi _ 33)) rfl))
                    go_wp2_with (go_at_call 21; refine (cS _).mono ?_; rintro e W2 ⟨rfl, hB2⟩; obtain ⟨hb2, p1⟩ := HS.out W2 hB2; have HB2 := Lib.hid hb2; clear hB2 hb2)
                    go_roundw
                    case rel => exact ⟨j + 1, _, by omega, rfl, by go_num, HE2.out, HB2.out⟩
                    case measure => simp [intOf]; omega
                  · rw [h4] at m1 k3
                    rw [show bs [sg 2] = ⟨#[33]⟩ from rfl] at k3
                    have ex : (⟨#[61, 33, 60]⟩ : ByteArray).extract 1 2 = ⟨#[33]⟩ := by rfl
                    have k3x : ∀ w, (Op.stringOp .add (bs y2) ((⟨#[61, 33, 60]⟩ : ByteArray).extract 1 2)).run Tryz.prog w = .ok (.string (bs y3)) w := by rw [ex]; exact k3
                    have HS := Lib.hid (fun (W : World) (hW : Below (wi.alloc (.cells #[.string (bs x.nm), .int .i64 2, .int .i64 x.t, .int .i64 x.n, .string (bs x.s)] 33)).heap.size (wi.alloc (.cells #[.string (bs x.nm), .int .i64 2, .int .i64 x.t, .int .i64 x.n, .string (bs x.s)] 33)) W) => And.intro (on2 HBi.out hW) (show W.cell? ⟨wi.heap.size, 1, none⟩ = some (.int .i64 2) from cell_at ((hW.block wi.heap.size (by simp)).trans (new_block wi _ 33)) rfl))
                    go_wp2_with (go_at_call 21; refine (cS _).mono ?_; rintro e W2 ⟨rfl, hB2⟩; obtain ⟨hb2, p1⟩ := HS.out W2 hB2; have HB2 := Lib.hid hb2; clear hB2 hb2)
                    go_roundw
                    case rel => exact ⟨j + 1, _, by omega, rfl, by go_num, HE2.out, HB2.out⟩
                    case measure => simp [intOf]; omega
                  · rw [h4] at m1 k3
                    rw [show bs [sg 3] = ⟨#[60]⟩ from rfl] at k3
                    have ex : (⟨#[61, 33, 60]⟩ : ByteArray).extract 2 3 = ⟨#[60]⟩ := by rfl
                    have k3x : ∀ w, (Op.stringOp .add (bs y2) ((⟨#[61, 33, 60]⟩ : ByteArray).extract 2 3)).run Tryz.prog w = .ok (.string (bs y3)) w := by rw [ex]; exact k3
                    have HS := Lib.hid (fun (W : World) (hW : Below (wi.alloc (.cells #[.string (bs x.nm), .int .i64 3, .int .i64 x.t, .int .i64 x.n, .string (bs x.s)] 33)).heap.size (wi.alloc (.cells #[.string (bs x.nm), .int .i64 3, .int .i64 x.t, .int .i64 x.n, .string (bs x.s)] 33)) W) => And.intro (on2 HBi.out hW) (show W.cell? ⟨wi.heap.size, 1, none⟩ = some (.int .i64 3) from cell_at ((hW.block wi.heap.size (by simp)).trans (new_block wi _ 33)) rfl))
                    go_wp2_with (go_at_call 21; refine (cS _).mono ?_; rintro e W2 ⟨rfl, hB2⟩; obtain ⟨hb2, p1⟩ := HS.out W2 hB2; have HB2 := Lib.hid hb2; clear hB2 hb2)
                    go_roundw
                    case rel => exact ⟨j + 1, _, by omega, rfl, by go_num, HE2.out, HB2.out⟩
                    case measure => simp [intOf]; omega
              · have hjf : decide (j = 0) = false := by simp; omega
                rw [hjf] at hd
                have jb1 : ((j : Int) == 0) = false := by rw [beq_eq_false_iff_ne]; omega
                obtain ⟨y1, H1, q1, k1⟩ := catX cur [44] (by omega) (by decide)
                obtain ⟨y2, H2, q2, k2⟩ := catX y1 x.nm (by rw [q1]; simp; omega) (by omega)
                rw [show bs [44] = ⟨#[44]⟩ from rfl] at k1
                rcases how_ok hxo.2 with ⟨h4, h5, h7, h8⟩ | ⟨h4, hv⟩
                · have HE2 : Hid (z4 ++ tsT xs.ts = y2 ++ tq false (xs.ts.drop (j + 1)) ++ tend xs.ts) := by
                    show _ = _; rw [HF.out, hjf, hd, H2.out, H1.out]; simp [tstT, h4]
                  rw [h4] at m1
                  clear H1 H2 q1 q2 hd hx hxo h4 h5 h7 h8 hjf
                  go_wp2
                  go_roundw
                  case rel => exact ⟨j + 1, _, by omega, rfl, by go_num, HE2.out, b_alloc HBi.out _⟩
                  case measure => simp [intOf]; omega
                · have hsl := show_len hv
                  have cS := fun W => showB x.t x.n x.s hv W
                  obtain ⟨y3, H3, q3, k3⟩ := catX y2 [sg x.hw] (by rw [q2, q1]; simp; omega) (show 1 ≤ 4000000 by decide)
                  obtain ⟨y4, H4, q4, k4⟩ := catX y3 (showL x.t x.n x.s) (by rw [q3, q2, q1]; simp; omega) (by omega)
                  have HE2 : Hid (z4 ++ tsT xs.ts = y4 ++ tq false (xs.ts.drop (j + 1)) ++ tend xs.ts) := by
                    show _ = _; rw [HF.out, hjf, hd, H4.out, H3.out, H2.out, H1.out]; simp [tstT, show ¬ x.hw = 4 by omega]
                  generalize showL x.t x.n x.s = sl at cS k4
                  clear H1 H2 H3 H4 q1 q2 q3 q4 hd hx hxo hjf hsl hv
                  rcases h4 with h4 | h4 | h4
                  · rw [h4] at m1 k3
                    rw [show bs [sg 1] = ⟨#[61]⟩ from rfl] at k3
                    have ex : (⟨#[61, 33, 60]⟩ : ByteArray).extract 0 1 = ⟨#[61]⟩ := by rfl
                    have k3x : ∀ w, (Op.stringOp .add (bs y2) ((⟨#[61, 33, 60]⟩ : ByteArray).extract 0 1)).run Tryz.prog w = .ok (.string (bs y3)) w := by rw [ex]; exact k3
                    have HS := Lib.hid (fun (W : World) (hW : Below (wi.alloc (.cells #[.string (bs x.nm), .int .i64 1, .int .i64 x.t, .int .i64 x.n, .string (bs x.s)] 33)).heap.size (wi.alloc (.cells #[.string (bs x.nm), .int .i64 1, .int .i64 x.t, .int .i64 x.n, .string (bs x.s)] 33)) W) => And.intro (on2 HBi.out hW) (show W.cell? ⟨wi.heap.size, 1, none⟩ = some (.int .i64 1) from cell_at ((hW.block wi.heap.size (by simp)).trans (new_block wi _ 33)) rfl))
                    go_wp2_with (go_at_call 21; refine (cS _).mono ?_; rintro e W2 ⟨rfl, hB2⟩; obtain ⟨hb2, p1⟩ := HS.out W2 hB2; have HB2 := Lib.hid hb2; clear hB2 hb2)
                    go_roundw
                    case rel => exact ⟨j + 1, _, by omega, rfl, by go_num, HE2.out, HB2.out⟩
                    case measure => simp [intOf]; omega
                  · rw [h4] at m1 k3
                    rw [show bs [sg 2] = ⟨#[33]⟩ from rfl] at k3
                    have ex : (⟨#[61, 33, 60]⟩ : ByteArray).extract 1 2 = ⟨#[33]⟩ := by rfl
                    have k3x : ∀ w, (Op.stringOp .add (bs y2) ((⟨#[61, 33, 60]⟩ : ByteArray).extract 1 2)).run Tryz.prog w = .ok (.string (bs y3)) w := by rw [ex]; exact k3
                    have HS := Lib.hid (fun (W : World) (hW : Below (wi.alloc (.cells #[.string (bs x.nm), .int .i64 2, .int .i64 x.t, .int .i64 x.n, .string (bs x.s)] 33)).heap.size (wi.alloc (.cells #[.string (bs x.nm), .int .i64 2, .int .i64 x.t, .int .i64 x.n, .string (bs x.s)] 33)) W) => And.intro (on2 HBi.out hW) (show W.cell? ⟨wi.heap.size, 1, none⟩ = some (.int .i64 2) from cell_at ((hW.block wi.heap.size (by simp)).trans (new_block wi _ 33)) rfl))
                    go_wp2_with (go_at_call 21; refine (cS _).mono ?_; rintro e W2 ⟨rfl, hB2⟩; obtain ⟨hb2, p1⟩ := HS.out W2 hB2; have HB2 := Lib.hid hb2; clear hB2 hb2)
                    go_roundw
                    case rel => exact ⟨j + 1, _, by omega, rfl, by go_num, HE2.out, HB2.out⟩
                    case measure => simp [intOf]; omega
                  · rw [h4] at m1 k3
                    rw [show bs [sg 3] = ⟨#[60]⟩ from rfl] at k3
                    have ex : (⟨#[61, 33, 60]⟩ : ByteArray).extract 2 3 = ⟨#[60]⟩ := by rfl
                    have k3x : ∀ w, (Op.stringOp .add (bs y2) ((⟨#[61, 33, 60]⟩ : ByteArray).extract 2 3)).run Tryz.prog w = .ok (.string (bs y3)) w := by rw [ex]; exact k3
                    have HS := Lib.hid (fun (W : World) (hW : Below (wi.alloc (.cells #[.string (bs x.nm), .int .i64 3, .int .i64 x.t, .int .i64 x.n, .string (bs x.s)] 33)).heap.size (wi.alloc (.cells #[.string (bs x.nm), .int .i64 3, .int .i64 x.t, .int .i64 x.n, .string (bs x.s)] 33)) W) => And.intro (on2 HBi.out hW) (show W.cell? ⟨wi.heap.size, 1, none⟩ = some (.int .i64 3) from cell_at ((hW.block wi.heap.size (by simp)).trans (new_block wi _ 33)) rfl))
                    go_wp2_with (go_at_call 21; refine (cS _).mono ?_; rintro e W2 ⟨rfl, hB2⟩; obtain ⟨hb2, p1⟩ := HS.out W2 hB2; have HB2 := Lib.hid hb2; clear hB2 hb2)
                    go_roundw
                    case rel => exact ⟨j + 1, _, by omega, rfl, by go_num, HE2.out, HB2.out⟩
                    case measure => simp [intOf]; omega
            · have hjn : j = xs.ts.length := by omega
              by_cases ht0 : xs.ts = []
              · have HE2 : Hid (txs true (M.map Sp.st) = cur ++ txs (decide (k + 1 = 0)) ((M.map Sp.st).drop (k + 1))) := by
                  have h1 := HF.out
                  rw [hjn, List.drop_length] at h1
                  have h2 : z4 ++ tsT xs.ts = cur := by rw [h1]; simp [tq, tend, ht0]
                  show _ = _; rw [HE.out, ← h2, HZ.out]; simp [kdT]
                have hl0 : xs.ts.length = 0 := by rw [ht0]; rfl
                have tb1 : ¬ 0 < xs.ts.length := by omega
                have tb2 : decide ((0 : Int) < (xs.ts.length : Int)) = false := by simp; omega
                clear hB hl0 ht0
                go_wp2
                go_roundw
                case rel => exact ⟨k + 1, _, by omega, rfl, by go_num, HE2.out, on2 HB.out HBi.out⟩
                case measure => simp [intOf]; omega
              · obtain ⟨y1, H1, q1, k1⟩ := catX cur [93] (by omega) (by decide)
                have HE2 : Hid (txs true (M.map Sp.st) = y1 ++ txs (decide (k + 1 = 0)) ((M.map Sp.st).drop (k + 1))) := by
                  have h1 := HF.out
                  rw [hjn, List.drop_length] at h1
                  have h2 : z4 ++ tsT xs.ts = y1 := by rw [h1, H1.out]; simp [tq, tend, ht0]
                  show _ = _; rw [HE.out, ← h2, HZ.out]; simp [kdT]
                rw [show bs [93] = ⟨#[93]⟩ from rfl] at k1
                have tb1 : 0 < xs.ts.length := List.length_pos_iff.2 ht0
                have tb2 : decide ((0 : Int) < (xs.ts.length : Int)) = true := by simp; omega
                clear hB ht0 H1 q1
                go_wp2
                go_roundw
                case rel => exact ⟨k + 1, _, by omega, rfl, by go_num, HE2.out, on2 HB.out HBi.out⟩
                case measure => simp [intOf]; omega
    · have HE2 : Hid (txs true (M.map Sp.st) = acc) := by show _ = _; rw [he, List.drop_eq_nil_of_le (by simp; omega)]; cases decide (k = 0) <;> simp [txs]
      clear hB he
      go_wp2
      go_ret
      exact ⟨ret_v (by rw [HE2.out]; rfl), HB.out⟩
end Go.Proofs.YtmgkdghkenpmbaaGreatDoor
