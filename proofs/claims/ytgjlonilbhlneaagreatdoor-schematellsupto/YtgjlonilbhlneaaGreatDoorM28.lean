/-
  The walk of kinref1.kind.
-/
import Derived.Test.YtgjlonilbhlneaaGreatDoorM27
namespace Go.Proofs.YtgjlonilbhlneaaGreatDoor
open Go.RowKit
set_option linter.unusedVariables false
set_option linter.unusedSimpArgs false

theorem nErr_two {l : Nm} (h : ¬ nErr l = 0) : nErr l = 2 := by
  unfold nErr at *
  split
  · rfl
  · split
    · rfl
    · split
      · rfl
      · rename_i h1 h2 h3; rw [if_neg h1, if_neg h2, if_neg h3] at h; exact absurd rfl h
theorem liesK_heap {W W0 : World} {b off : Nat} {l : List Kd} (h : LiesK W0 b off l) (e : W.heap = W0.heap) : LiesK W b off l := fun i k hk => by
  have := h i k hk
  simpa [World.cell?, e] using this
theorem liesS_heap {W W0 : World} {b off : Nat} {l : List Nm} (h : LiesS W0 b off l) (e : W.heap = W0.heap) : LiesS W b off l := fun i k hk => by
  have := h i k hk
  simpa [World.cell?, e] using this
theorem quiet_aR {P : Program} {f : FuncId} {args : Array Value} {w : World} {v : Value} (h : ∀ n, Calls P f args (w.drewN n) fun e w' => e = .returned v ∧ w' = w.drewN n) (a n : Nat) : Calls P f args (w.drewN (a + n)) fun e w'' => e = .returned v ∧ ∃ m, w'' = w.drewN (a + m) :=
  (h (a + n)).mono fun _ _ ⟨he, hm⟩ => ⟨he, n, hm⟩
theorem quiet_bR {P : Program} {f : FuncId} {args : Array Value} {w : World} {v : Value} (h : ∀ n, Calls P f args (w.drewN n) fun e w' => e = .returned v ∧ w' = w.drewN n) (a n : Nat) : Calls P f args (w.drewN (a + n)) fun e w'' => e = .returned v ∧ ∃ m, w'' = (w.drewN a).drewN m :=
  (h (a + n)).mono fun _ _ ⟨he, hm⟩ => ⟨he, n, by rw [hm, World.drewN_drewN]⟩
theorem oChk_five {A : List Kd} {l : List Nm} {j : Nat} {n : Nm} (hi : oChk A [] l = oChk A (l.take j) (l.drop j)) (hn : l[j]? = some n) (hx : idxK n A 0 = -1) : oChk A [] l = 5 := by
  rw [hi, dropK hn]; unfold oChk; rw [if_pos hx]
theorem oChk_seven {A : List Kd} {l : List Nm} {j : Nat} {n : Nm} (hi : oChk A [] l = oChk A (l.take j) (l.drop j)) (hn : l[j]? = some n) (hx : ¬ idxK n A 0 = -1) (hh : hasN (l.take j) n = true) : oChk A [] l = 7 := by
  rw [hi, dropK hn]; unfold oChk; rw [if_neg hx, if_pos hh]
theorem oChk_next {A : List Kd} {l : List Nm} {j : Nat} {n : Nm} (hi : oChk A [] l = oChk A (l.take j) (l.drop j)) (hn : l[j]? = some n) (hx : ¬ idxK n A 0 = -1) (hh : hasN (l.take j) n = false) : oChk A [] l = oChk A (l.take (j + 1)) (l.drop (j + 1)) := by
  rw [hi, dropK hn, takeK hn]
  conv => lhs; unfold oChk
  rw [if_neg hx, if_neg (by rw [hh]; decide)]
theorem kErr_name {A : List Kd} {k : Kd} (h : ¬ nErr k.nm = 0) : kErr A k = 2 := by unfold kErr; rw [if_neg h, nErr_two h]
theorem kErr_twice {A : List Kd} {k : Kd} (h : nErr k.nm = 0) (hx : ¬ idxK k.nm A 0 = -1) : kErr A k = 7 := by unfold kErr; rw [if_pos h, if_neg hx]
theorem kErr_many {A : List Kd} {k : Kd} (h : nErr k.nm = 0) (hx : idxK k.nm A 0 = -1) (h4 : 4 < k.of.length ∨ 8 < k.fs.length) : kErr A k = 4 := by unfold kErr; rw [if_pos h, if_pos hx, if_pos h4]
theorem kErr_of {A : List Kd} {k : Kd} (h : nErr k.nm = 0) (hx : idxK k.nm A 0 = -1) (h4 : k.of.length ≤ 4 ∧ k.fs.length ≤ 8) (h5 : ¬ oChk A [] k.of = 0) : kErr A k = oChk A [] k.of := by unfold kErr; rw [if_pos h, if_pos hx, if_neg (by omega), if_neg h5]
theorem kErr_fs {A : List Kd} {k : Kd} (h : nErr k.nm = 0) (hx : idxK k.nm A 0 = -1) (h4 : k.of.length ≤ 4 ∧ k.fs.length ≤ 8) (h5 : oChk A [] k.of = 0) (h6 : ¬ fChk none k.fs = 0) : kErr A k = fChk none k.fs := by unfold kErr; rw [if_pos h, if_pos hx, if_neg (by omega), if_pos h5, if_neg h6]
theorem kErr_all {A : List Kd} {k : Kd} (h : nErr k.nm = 0) (hx : idxK k.nm A 0 = -1) (h4 : k.of.length ≤ 4 ∧ k.fs.length ≤ 8) (h5 : oChk A [] k.of = 0) (h6 : fChk none k.fs = 0) : kErr A k = aErr (fieldsOf (kinOf (A ++ [k]))) := by unfold kErr; rw [if_pos h, if_pos hx, if_neg (by omega), if_pos h5, if_pos h6]

set_option maxHeartbeats 16000000 in
set_option maxRecDepth 100000 in
theorem rk_some (b off cap : Nat) (L : List Kd) (i : Nat) (k : Kd) (w : World) (hb : b < w.heap.size) (hL : LiesK w b off L) (hP : Parts w L) (hz : SzK L) (hn : L.length ≤ 12) (hc : L.length ≤ cap) (hcm : cap ≤ maxLen) (hk : L[i]? = some k) (hG : Good (L.take i)) :
    Calls Tryz.prog 43 #[.slice (some ⟨b, off, none⟩) L.length cap, .int .i64 i] w fun e w' => e = .returned (.int .i64 (kErr (L.take i) k)) ∧ Below w.heap.size w w' := by
  have hil := (List.getElem?_eq_some_iff.1 hk).1
  obtain ⟨c0, c1, c2⟩ := hL i k hk
  have hkm : k ∈ L := List.mem_of_getElem? hk
  have hkP := hP k hkm
  obtain ⟨ao, co, evo, hvo⟩ := isS_viewR hkP.1
  obtain ⟨af, cf, evf, hvf⟩ := isF_viewR hkP.2
  obtain ⟨_, _, _, hvl⟩ := hkP.1.sln
  obtain ⟨_, _, _, hfl⟩ := hkP.2.sln
  rw [evo] at c1
  rw [evf] at c2
  obtain ⟨W0, hW0⟩ : ∃ W0, W0 = w.alloc (.cells #[.string (bs k.nm), .slice ao k.of.length co, .slice af k.fs.length cf] 55) := ⟨_, rfl⟩
  have hB0 : Below w.heap.size w W0 := by rw [hW0]; exact b_alloc (Below.refl _ _) (Nat.le_refl _) _
  have hlen : (L.take i).length = i := List.length_take_of_le (by omega)
  have hAl : LiesK W0 b off (L.take i) := (hL.on hb hB0).take i
  have hS1 : Small (L.take i) := hG.small
  obtain ⟨A, hA⟩ : ∃ A, A = L.take i := ⟨_, rfl⟩
  have hAk : A ++ [k] = L.take (i + 1) := by rw [hA, takeK hk]
  rw [← hA] at hlen hAl hS1 hG ⊢
  have cK : ∀ (W : World) (s : Nm), W.heap = W0.heap → Calls Tryz.prog 15 #[.slice (some ⟨b, off, none⟩) i cap, .string (bs s)] W fun e w' => e = .returned (.int .i64 (idxK s A 0)) ∧ w' = W := fun W s e => by
    have := rkind_some b off cap A s W (liesK_heap hAl e) (by omega)
    rw [hlen] at this; exact this
  have e0 : W0.cell? ⟨w.heap.size, 0, none⟩ = some (.string (bs k.nm)) := by rw [hW0]; simp
  have e1 : W0.cell? ⟨w.heap.size, 1, none⟩ = some (.slice ao k.of.length co) := by rw [hW0]; simp
  have e2 : W0.cell? ⟨w.heap.size, 2, none⟩ = some (.slice af k.fs.length cf) := by rw [hW0]; simp
  have hs0 : w.heap.size < W0.heap.size := by rw [hW0]; simp
  have nm := fun w => rname_any (bs k.nm) w (by rw [bs_size]; exact (hz k hkm).1)
  simp only [bs_data] at nm
  have hii : (i : Int) < (L.length : Int) := by omega
  have hic : (i : Int) ≤ (cap : Int) := by unfold maxLen at hcm; omega
  have HH : Hid (LiesK w b off L ∧ Parts w L ∧ SzK L ∧ cap ≤ maxLen ∧ Good A ∧ Small A ∧ A.length = i ∧ L.length ≤ cap ∧ A ++ [k] = L.take (i + 1) ∧ k ∈ L ∧ L[i]? = some k) := ⟨hL, hP, hz, hcm, hG, hS1, hlen, hc, hAk, hkm, hk⟩
  have HB0 : Hid (Below w.heap.size w W0) := hB0
  have HVO : Hid (∀ j g, k.of[j]? = some g → ∃ b o, ao = some ⟨b, o, none⟩ ∧ b < w.heap.size ∧ w.cell? ⟨b, o + j, none⟩ = some (.string (bs g))) := hvo
  have HVF : Hid (∀ j g, k.fs[j]? = some g → ∃ b o, af = some ⟨b, o, none⟩ ∧ b < w.heap.size ∧ w.cell? ⟨b, o + j * 4, none⟩ = some (.string (bs g.nm)) ∧ w.cell? ⟨b, o + j * 4 + 1, none⟩ = some (.int .i64 g.t) ∧ w.cell? ⟨b, o + j * 4 + 2, none⟩ = some (.bool g.must) ∧ w.cell? ⟨b, o + j * 4 + 3, none⟩ = some (.bool g.key)) := hvf
  have HIS : Hid (IsS w (.slice ao k.of.length co) k.of) := by rw [← evo]; exact hkP.1
  unfold maxLen at hcm hvl hfl
  clear hL hP hz hG hS1 hlen hAk hkm hk hB0 hvo hvf hAl hkP evo evf hA
  by_cases h1 : nErr k.nm = 0
  · have nm' : ∀ w, Calls Tryz.prog 20 #[.string (bs k.nm)] w fun e w' => e = .returned (.int .i64 0) ∧ w' = w := fun w => by
      have := nm w; rw [h1] at this; exact this
    clear nm
    rcases idxK_spec k.nm A 0 with hx | ⟨jx, qx, hx, _, _⟩
    · have cK0 : ∀ (W : World), W.heap = W0.heap → Calls Tryz.prog 15 #[.slice (some ⟨b, off, none⟩) i cap, .string (bs k.nm)] W fun e w' => e = .returned (.int .i64 (-1)) ∧ w' = W := fun W e => by
        have := cK W k.nm e; rw [hx] at this; exact this
      have HX : Hid (nErr k.nm = 0 ∧ idxK k.nm A 0 = -1) := ⟨h1, hx⟩
      have HCK : Hid (∀ (W : World) (s : Nm), W.heap = W0.heap → Calls Tryz.prog 15 #[.slice (some ⟨b, off, none⟩) i cap, .string (bs s)] W fun e w' => e = .returned (.int .i64 (idxK s A 0)) ∧ w' = W) := cK
      clear h1 hx cK
      by_cases h4 : 4 < k.of.length ∨ 8 < k.fs.length
      · have H : Hid (kErr A k = 4) := kErr_many HX.out.1 HX.out.2 h4
        have h4' : 4 < k.of.length ∨ (¬ 4 < k.of.length ∧ 8 < k.fs.length) := by omega
        clear h4
        rcases h4' with h4 | ⟨h4, h8⟩
        all_goals
          go_enter Tryz.func43, Tryz.ntmps43
          go_wp2_with (go_at_call 20; refine (nm' _).mono ?_; rintro e w' ⟨rfl, rfl⟩)
          rw [← hW0]; clear hW0
          go_quiet (exact Calls.quiet_of_same (cK0 (W0.drewN _) rfl))
          go_wp2
          go_ret
          exact ⟨ret_int H.out.symm, b_drewN HB0.out _⟩
      · have h4a : k.of.length ≤ 4 := by omega
        have h4b : k.fs.length ≤ 8 := by omega
        have h4c : ¬ 4 < k.of.length := by omega
        have h4d : ¬ 8 < k.fs.length := by omega
        have H4 : Hid (k.of.length ≤ 4 ∧ k.fs.length ≤ 8) := ⟨h4a, h4b⟩
        clear h4
        go_enter Tryz.func43, Tryz.ntmps43
        go_wp2_with (go_at_call 20; refine (nm' _).mono ?_; rintro e w' ⟨rfl, rfl⟩)
        rw [← hW0]; clear hW0
        go_quiet (exact Calls.quiet_of_same (cK0 (W0.drewN _) rfl))
        clear cK0 nm'
        go_wp2
        go_loopw [6, 7] (fun s6 _ wr => ∃ (j n : Nat), j ≤ k.of.length ∧ s6 = .int .i64 j ∧ oChk A [] k.of = oChk A (k.of.take j) (k.of.drop j) ∧ wr = W0.drewN n) (fun s6 _ _ => k.of.length - (intOf s6).toNat)
        case atStart => exact ⟨0, _, Nat.zero_le _, rfl, rfl, rfl⟩
        case round =>
          obtain ⟨j, nd, hj, rfl, hi, hwr⟩ := hrel
          have d0 : wr.cell? ⟨w.heap.size, 0, none⟩ = some (.string (bs k.nm)) := by rw [hwr]; exact e0
          have d1 : wr.cell? ⟨w.heap.size, 1, none⟩ = some (.slice ao k.of.length co) := by rw [hwr]; exact e1
          have d2 : wr.cell? ⟨w.heap.size, 2, none⟩ = some (.slice af k.fs.length cf) := by rw [hwr]; exact e2
          have HWR : Hid (wr.heap = W0.heap ∧ ∃ n, wr = W0.drewN n) := ⟨by rw [hwr]; rfl, nd, hwr⟩
          have hs1 : w.heap.size < wr.heap.size := by rw [HWR.out.1]; exact hs0
          have HBR : Hid (Below w.heap.size w wr) := by rw [hwr]; exact b_drewN HB0.out _
          have HBR0 : Hid (Below W0.heap.size W0 wr) := by rw [hwr]; exact b_drewN (Below.refl _ _) _
          clear hwr
          have HI : Hid (oChk A [] k.of = oChk A (k.of.take j) (k.of.drop j)) := hi
          clear hi
          by_cases hlt : j < k.of.length
          · obtain ⟨p, hp⟩ : ∃ p, k.of[j]? = some p := ⟨k.of[j], by simp [hlt]⟩
            obtain ⟨bo, oo, rfl, hbo, ho⟩ := HVO.out j p hp
            have ho0 : wr.cell? ⟨bo, oo + j, none⟩ = some (.string (bs p)) := (HBR.out.cell (p := ⟨bo, oo + j, none⟩) hbo).trans ho
            have HP : Hid (k.of[j]? = some p) := hp
            have hji : (j : Int) < (k.of.length : Int) := by omega
            have cKp := fun W e => HCK.out W p e
            have HLS : Hid (LiesS W0 bo oo k.of ∧ k.of.length ≤ co) := by
              rcases HIS.out with ⟨_, _, e, hnil, _⟩ | ⟨b', o', c', e, hc', _, hb', hl'⟩
              · rw [hnil] at hp; simp at hp
              · injection e with e1 e2 e3
                injection e1 with e1
                injection e1 with e4 e5 _
                subst e4; subst e5; subst e3
                exact ⟨hl'.on hb' HB0.out, hc'⟩
            clear ho hp
            rcases idxK_spec p A 0 with hx | ⟨jy, qy, hx, _, _⟩
            · have H : Hid (kErr A k = 5) := by
                have h5 := oChk_five HI.out HP.out hx
                show _ = _
                rw [kErr_of HX.out.1 HX.out.2 H4.out (by rw [h5]; decide), h5]
              rw [hx] at cKp
              clear HI hx
              go_wp2_with fail
              go_quiet (exact Calls.quiet_of_same (cKp (wr.drewN _) HWR.out.1))
              go_wp2
              go_ret
              first | exact ⟨ret_int H.out.symm, b_drewN HBR.out _⟩ | exact ⟨ret_int H.out.symm, b_drewN (b_drewN HBR.out _) _⟩
            · have hne : ¬ idxK p A 0 = -1 := by omega
              rw [hx, Nat.zero_add] at cKp
              have cIn : ∀ W : World, W.heap = W0.heap → Calls Tryz.prog 39 #[.slice (some ⟨bo, oo, none⟩) j co, .string (bs p)] W fun e w' => e = .returned (.bool (hasN (k.of.take j) p)) ∧ w' = W := fun W e => by
                have := in_some bo oo co (k.of.take j) p W (liesS_heap (HLS.out.1.take j) e) (by simp; omega)
                rw [List.length_take_of_le hj] at this; exact this
              have hjc : (j : Int) ≤ (co : Int) := by have := HLS.out.2; omega
              clear hx
              cases hh : hasN (k.of.take j) p with
              | true =>
                have H : Hid (kErr A k = 7) := by
                  have h5 := oChk_seven HI.out HP.out hne hh
                  show _ = _
                  rw [kErr_of HX.out.1 HX.out.2 H4.out (by rw [h5]; decide), h5]
                rw [hh] at cIn
                clear HI hh hne
                go_wp2_with fail
                go_quiet (exact Calls.quiet_of_same (cKp (wr.drewN _) HWR.out.1))
                go_wp2_with fail
                go_quiet (first | exact Calls.quiet_of_same (cIn (wr.drewN _) HWR.out.1) | exact quiet_aR (fun n => cIn (wr.drewN n) HWR.out.1) _ _ | exact quiet_bR (fun n => cIn (wr.drewN n) HWR.out.1) _ _)
                go_wp2
                go_ret
                first | exact ⟨ret_int H.out.symm, b_drewN HBR.out _⟩ | exact ⟨ret_int H.out.symm, b_drewN (b_drewN HBR.out _) _⟩
              | false =>
                have H : Hid (oChk A [] k.of = oChk A (k.of.take (j + 1)) (k.of.drop (j + 1))) := oChk_next HI.out HP.out hne hh
                rw [hh] at cIn
                clear HI hh hne
                go_wp2_with fail
                go_quiet (exact Calls.quiet_of_same (cKp (wr.drewN _) HWR.out.1))
                go_wp2_with fail
                go_quiet (first | exact Calls.quiet_of_same (cIn (wr.drewN _) HWR.out.1) | exact quiet_aR (fun n => cIn (wr.drewN n) HWR.out.1) _ _ | exact quiet_bR (fun n => cIn (wr.drewN n) HWR.out.1) _ _)
                go_wp2
                go_roundw
                case rel => obtain ⟨n0, hn0⟩ := HWR.out.2; exact ⟨j + 1, _, by omega, by go_num, H.out, by rw [hn0]; first | rfl | (simp only [World.drewN_drewN]; rfl)⟩
                case measure => simp [intOf]; omega
          · have hd : k.of.drop j = [] := List.drop_eq_nil_of_le (by omega)
            have H5 : Hid (oChk A [] k.of = 0) := by
              show _ = _
              rw [HI.out, hd]; rfl
            clear HI hd
            go_wp2
            go_loopw [8, 9] (fun s8 _ wr => ∃ (j : Nat), j ≤ k.fs.length ∧ s8 = .int .i64 j ∧ fChk none k.fs = fChk (prvF k.fs j) (k.fs.drop j) ∧ Below W0.heap.size W0 wr) (fun s8 _ _ => k.fs.length - (intOf s8).toNat)
            case atStart => exact ⟨0, Nat.zero_le _, rfl, rfl, HBR0.out⟩
            case round =>
              obtain ⟨j, hj, rfl, hc2, hB⟩ := hrel
              have HC : Hid (fChk none k.fs = fChk (prvF k.fs j) (k.fs.drop j)) := hc2
              have hBw := on1 HB0.out hB (Nat.le_refl _)
              have r0 := (hB.cell (p := ⟨w.heap.size, 0, none⟩) hs0).trans e0
              have r1 := (hB.cell (p := ⟨w.heap.size, 1, none⟩) hs0).trans e1
              have r2 := (hB.cell (p := ⟨w.heap.size, 2, none⟩) hs0).trans e2
              have hsr : w.heap.size < wr.heap.size := Nat.lt_of_lt_of_le hs0 hB.size
              have hsn : ¬ w.heap.size = wr.heap.size := by omega
              clear hc2 d0 d1 d2 e0 e1 e2
              by_cases hlf : j < k.fs.length
              · obtain ⟨p, hp⟩ : ∃ p, k.fs[j]? = some p := ⟨k.fs[j], by simp [hlf]⟩
                obtain ⟨bf, of, rfl, hbf, g0, g1, g2, g3⟩ := HVF.out j p hp
                have z1 := (HH.out.2.2.1 k HH.out.2.2.2.2.2.2.2.2.2.1).2 p (List.mem_of_getElem? hp)
                obtain ⟨f, t, must, key⟩ := p
                simp only at g0 g1 g2 g3 z1
                have x0 := (hBw.cell (p := ⟨bf, of + j * 4, none⟩) hbf).trans g0
                have x1 := (hBw.cell (p := ⟨bf, of + j * 4 + 1, none⟩) hbf).trans g1
                have x2 := (hBw.cell (p := ⟨bf, of + j * 4 + 2, none⟩) hbf).trans g2
                have x3 := (hBw.cell (p := ⟨bf, of + j * 4 + 3, none⟩) hbf).trans g3
                have HP : Hid (k.fs[j]? = some ⟨f, t, must, key⟩) := hp
                have HD : Hid (k.fs.drop j = ⟨f, t, must, key⟩ :: k.fs.drop (j + 1)) := dropK hp
                have hbr : bf < wr.heap.size := Nat.lt_of_lt_of_le hbf hBw.size
                have hbn : ¬ bf = wr.heap.size := by omega
                have nm := fun w => rname_any (bs f) w (by rw [bs_size]; exact z1)
                simp only [bs_data] at nm
                have hji : (j : Int) < (k.fs.length : Int) := by omega
                have HKF : Hid (∀ c, ¬ c = 0 → fChk none k.fs = c → kErr A k = c) := fun c hc0 e => by
                  rw [kErr_fs HX.out.1 HX.out.2 H4.out H5.out (by rw [e]; exact hc0), e]
                clear g0 g1 g2 g3 hp z1
                by_cases h1 : nErr f = 0
                · have nm' : ∀ w, Calls Tryz.prog 20 #[.string (bs f)] w fun e w' => e = .returned (.int .i64 0) ∧ w' = w := fun w => by
                    have := nm w; rw [h1] at this; exact this
                  clear nm
                  by_cases ht : t = 1 ∨ t = 2 ∨ t = 3
                  · have ht1 : 1 ≤ t := by omega
                    have ht3 : t ≤ 3 := by omega
                    by_cases hkm : (key && !must) = true
                    · have H : Hid (kErr A k = 3) := by
                        have hbad : fBad (prvF k.fs j) ⟨f, t, must, key⟩ = 3 := by unfold fBad; rw [if_pos h1, if_pos ht, if_pos hkm]
                        exact HKF.out 3 (by decide) (by rw [HC.out, HD.out, fChk_stop (by rw [hbad]; decide), hbad])
                      have hk1 : key = true ∧ must = false := by simpa using hkm
                      obtain ⟨rfl, rfl⟩ := hk1
                      clear HC HD HP h1 hkm ht
                      go_wp2_with (go_at_call 20; refine (nm' _).mono ?_; rintro e w' ⟨rfl, rfl⟩)
                      go_ret
                      exact ⟨ret_int H.out.symm, b_alloc hBw (Nat.le_refl _) _⟩
                    · have hk1 : (key = false) ∨ (key = true ∧ must = true) := by
                        cases key <;> cases must <;> simp_all
                      by_cases hk0 : j = 0
                      · subst hk0
                        have hstep : Hid (fChk none k.fs = fChk (prvF k.fs (0 + 1)) (k.fs.drop (0 + 1))) := by
                          have hbad : fBad (prvF k.fs 0) ⟨f, t, must, key⟩ = 0 := by unfold fBad; rw [if_pos h1, if_pos ht, if_neg hkm]; rfl
                          show _ = _
                          have := HC.out; rw [HD.out, fChk_step hbad] at this
                          rw [this, prvF_s HP.out]
                        clear HC HD HP h1 hkm ht
                        simp only [Nat.zero_mul, Nat.add_zero] at x0 x1 x2 x3
                        rcases hk1 with rfl | ⟨rfl, rfl⟩
                        all_goals
                          go_wp2_with (go_at_call 20; refine (nm' _).mono ?_; rintro e w' ⟨rfl, rfl⟩)
                          go_quiet (fail)
                          go_wp2
                          go_roundw
                          case rel => exact ⟨0 + 1, by omega, by go_num, hstep.out, b_drewN (b_alloc hB (Nat.le_refl _) _) _⟩
                          case measure => simp [intOf]; omega
                      · obtain ⟨q, hq⟩ : ∃ q, k.fs[j - 1]? = some q := ⟨k.fs[j - 1], by simp⟩
                        have hprv : prvF k.fs j = some q := by unfold prvF; rw [if_neg hk0]; exact hq
                        obtain ⟨bq, oq, eq0, _, y0, _⟩ := HVF.out (j - 1) q hq
                        injection eq0 with eq0
                        injection eq0 with eq1 eq2 _
                        subst eq1; subst eq2
                        have y0' := (hBw.cell (p := ⟨bf, of + (j - 1) * 4, none⟩) hbf).trans y0
                        have hw1 : IntKind.i64.wrap ((j - 1 : Nat) : Int) = ((j - 1 : Nat) : Int) := by rw [IntKind.wrap_i64]; omega
                        have hb1 : ((j - 1 : Nat) : Int) < (k.fs.length : Int) := by omega
                        have hg : 0 < j := by omega
                        have hcast : (j : Int) - 1 = ((j - 1 : Nat) : Int) := by omega
                        clear y0 hq
                        cases h3 : (Op.bytesLess f q.nm || f == q.nm) with
                        | true =>
                          have H : Hid (kErr A k = 7) := by
                            have hbad : fBad (prvF k.fs j) ⟨f, t, must, key⟩ = 7 := by unfold fBad; rw [if_pos h1, if_pos ht, if_neg hkm, hprv]; simp only; rw [if_pos h3]
                            exact HKF.out 7 (by decide) (by rw [HC.out, HD.out, fChk_stop (by rw [hbad]; decide), hbad])
                          have h4 : (Op.bytesLess f q.nm = true) ∨ (Op.bytesLess f q.nm = false ∧ (f == q.nm) = true) := by
                            cases h5 : Op.bytesLess f q.nm
                            · right; rw [h5, Bool.false_or] at h3; exact ⟨rfl, h3⟩
                            · left; rfl
                          clear HC HD HP h1 hkm hprv h3 ht
                          rcases hk1 with rfl | ⟨rfl, rfl⟩
                          all_goals
                            rcases h4 with h4 | ⟨h4, h5⟩
                            all_goals
                              go_wp2_with (go_at_call 20; refine (nm' _).mono ?_; rintro e w' ⟨rfl, rfl⟩)
                              go_quiet (fail)
                              go_wp2
                              go_ret
                              exact ⟨ret_int H.out.symm, b_drewN (b_alloc hBw (Nat.le_refl _) _) _⟩
                        | false =>
                          have hstep : Hid (fChk none k.fs = fChk (prvF k.fs (j + 1)) (k.fs.drop (j + 1))) := by
                            have hbad : fBad (prvF k.fs j) ⟨f, t, must, key⟩ = 0 := by unfold fBad; rw [if_pos h1, if_pos ht, if_neg hkm, hprv]; simp only; rw [if_neg (by rw [h3]; decide)]
                            show _ = _
                            have := HC.out; rw [HD.out, fChk_step hbad] at this
                            rw [this, prvF_s HP.out]
                          obtain ⟨h4, h5⟩ := (Bool.or_eq_false_iff).1 h3
                          clear HC HD HP h1 hkm hprv h3 ht
                          rcases hk1 with rfl | ⟨rfl, rfl⟩
                          all_goals
                            go_wp2_with (go_at_call 20; refine (nm' _).mono ?_; rintro e w' ⟨rfl, rfl⟩)
                            go_quiet (fail)
                            go_wp2
                            go_roundw
                            case rel => exact ⟨j + 1, by omega, by go_num, hstep.out, b_drewN (b_alloc hB (Nat.le_refl _) _) _⟩
                            case measure => simp [intOf]; omega
                  · have H : Hid (kErr A k = 8) := by
                      have hbad : fBad (prvF k.fs j) ⟨f, t, must, key⟩ = 8 := by unfold fBad; rw [if_pos h1, if_neg ht]
                      exact HKF.out 8 (by decide) (by rw [HC.out, HD.out, fChk_stop (by rw [hbad]; decide), hbad])
                    have ht' : t < 1 ∨ (¬ t < 1 ∧ 3 < t) := by omega
                    clear HC HD HP h1 ht
                    rcases ht' with ht | ⟨ht, ht3⟩
                    all_goals
                      go_wp2_with (go_at_call 20; refine (nm' _).mono ?_; rintro e w' ⟨rfl, rfl⟩)
                      go_ret
                      exact ⟨ret_int H.out.symm, b_alloc hBw (Nat.le_refl _) _⟩
                · have nm' : ∀ w, Calls Tryz.prog 20 #[.string (bs f)] w fun e w' => e = .returned (.int .i64 2) ∧ w' = w := fun w => by
                    have := nm w; rw [nErr_two h1] at this; exact this
                  have H : Hid (kErr A k = 2) := by
                    have hbad : fBad (prvF k.fs j) ⟨f, t, must, key⟩ = 2 := by unfold fBad; rw [if_neg h1]; exact nErr_two h1
                    exact HKF.out 2 (by decide) (by rw [HC.out, HD.out, fChk_stop (by rw [hbad]; decide), hbad])
                  clear HC HD HP nm h1
                  go_wp2_with (go_at_call 20; refine (nm' _).mono ?_; rintro e w' ⟨rfl, rfl⟩)
                  go_ret
                  exact ⟨ret_int H.out.symm, b_alloc hBw (Nat.le_refl _) _⟩
              · have hd : k.fs.drop j = [] := List.drop_eq_nil_of_le (by omega)
                have H6 : fChk none k.fs = 0 := by
                  rw [HC.out, hd]; cases prvF k.fs j <;> rfl
                have HE : Hid (kErr A k = aErr (fieldsOf (kinOf (A ++ [k])))) := kErr_all HX.out.1 HX.out.2 H4.out H5.out H6
                obtain ⟨o, ho⟩ : ∃ o, o = fieldsOf (kinOf (A ++ [k])) := ⟨_, rfl⟩
                have HO : Hid (kErr A k = aErr o) := by rw [ho]; exact HE.out
                have cF : ∀ n, Calls Tryz.prog 66 #[.slice (some ⟨b, off, none⟩) (i + 1) cap, .string (bs k.nm)] (wr.drewN n) (RFPost (wr.drewN n) o) := fun n => by
                  obtain ⟨hL, hP, _, _, hG, hS, hlA, _, hAk, hkm, hk⟩ := HH.out
                  have hBn : Below w.heap.size w (wr.drewN n) := b_drewN hBw n
                  have hR : Right (A ++ [k]) := right_snoc.2 ⟨idxK_none HX.out.2, oChk_zero A k.of [] H5.out, hG.right⟩
                  have hqA : (A ++ [k])[A.length]? = some k := by simp
                  have hlen : (L.take (i + 1)).length = i + 1 := List.length_take_of_le (by omega)
                  have hko := kinOf_at hR hqA
                  rw [List.take_of_length_le (by simp)] at hko
                  have hSk : Small (A ++ [k]) := fun x hx => by
                    rcases List.mem_append.1 hx with hx | hx
                    · exact hS x hx
                    · have : x = k := by simpa using hx
                      subst this; exact H4.out
                  have := rfields_some b off cap (A ++ [k]) k.nm A.length k (wr.drewN n) (Nat.lt_of_lt_of_le hb hBn.size) (by rw [hAk]; exact (hL.on hb hBn).take _) ((hP.on hBn).sub (fun x hx => by rw [hAk] at hx; exact List.mem_of_mem_take hx)) hSk (by rw [hAk, hlen]; omega) hR hqA rfl
                  rw [show (A ++ [k]).length = i + 1 by rw [hAk, hlen]] at this
                  rw [ho, hko]
                  exact this
                have hi1 : (i : Int) + 1 ≤ (cap : Int) := by omega
                have hwi : IntKind.i64.wrap ((i : Int) + 1) = (i : Int) + 1 := by rw [IntKind.wrap_i64]; omega
                have HBw : Hid (Below w.heap.size w wr) := hBw
                clear HC hd H6 HE ho hB hBw
                have hsp : o = none ∨ ∃ l, o = some l ∧ (8 < l.length ∨ ¬ 8 < l.length) := by
                  cases o with
                  | none => exact .inl rfl
                  | some l => exact .inr ⟨l, rfl, by omega⟩
                rcases hsp with rfl | ⟨l, rfl, h8 | h8⟩
                · go_wp2_with fail
                  go_region_with (go_at_call 66; refine (cF 1).mono ?_; rintro e W5 ⟨v5, rfl, hown5, hno5, hB5⟩; obtain rfl := hno5 rfl)
                  all_goals
                    go_wp2
                    go_ret
                    exact ⟨ret_int (by rw [HO.out]; rfl), on1 (b_drewN HBw.out 1) hB5 (Nat.le_refl _)⟩
                · have HO2 : Hid (kErr A k = 4) := by
                    show _ = _
                    rw [HO.out]; unfold aErr; simp only; rw [if_pos h8]
                  clear HO
                  go_wp2_with fail
                  go_region_with (go_at_call 66; refine (cF 1).mono ?_; rintro e W5 ⟨v5, rfl, hown5, hno5, hB5⟩; obtain ⟨a5, cp5, rfl⟩ := own_slice (hown5 l rfl); clear hown5 hno5)
                  all_goals
                    go_wp2
                    go_ret
                    exact ⟨ret_int HO2.out.symm, on1 (b_drewN HBw.out 1) hB5 (Nat.le_refl _)⟩
                · have HO2 : Hid (kErr A k = 0) := by
                    show _ = _
                    rw [HO.out]; unfold aErr; simp only; rw [if_neg h8]
                  clear HO
                  go_wp2_with fail
                  go_region_with (go_at_call 66; refine (cF 1).mono ?_; rintro e W5 ⟨v5, rfl, hown5, hno5, hB5⟩; obtain ⟨a5, cp5, rfl⟩ := own_slice (hown5 l rfl); clear hown5 hno5)
                  all_goals
                    go_wp2
                    go_ret
                    exact ⟨ret_int HO2.out.symm, on1 (b_drewN HBw.out 1) hB5 (Nat.le_refl _)⟩
    · have cK0 : ∀ (W : World), W.heap = W0.heap → Calls Tryz.prog 15 #[.slice (some ⟨b, off, none⟩) i cap, .string (bs k.nm)] W fun e w' => e = .returned (.int .i64 (jx : Int)) ∧ w' = W := fun W e => by
        have := cK W k.nm e; rw [hx, Nat.zero_add] at this; exact this
      have H : Hid (kErr A k = 7) := kErr_twice h1 (by omega)
      clear h1 hx cK
      go_enter Tryz.func43, Tryz.ntmps43
      go_wp2_with (go_at_call 20; refine (nm' _).mono ?_; rintro e w' ⟨rfl, rfl⟩)
      rw [← hW0]; clear hW0
      go_quiet (exact Calls.quiet_of_same (cK0 (W0.drewN _) rfl))
      go_wp2
      go_ret
      exact ⟨ret_int H.out.symm, b_drewN HB0.out _⟩
  · have nm' : ∀ w, Calls Tryz.prog 20 #[.string (bs k.nm)] w fun e w' => e = .returned (.int .i64 2) ∧ w' = w := fun w => by
      have := nm w; rw [nErr_two h1] at this; exact this
    have H : Hid (kErr A k = 2) := kErr_name h1
    clear nm h1 cK
    go_enter Tryz.func43, Tryz.ntmps43
    go_wp2_with (go_at_call 20; refine (nm' _).mono ?_; rintro e w' ⟨rfl, rfl⟩)
    rw [← hW0]; clear hW0
    go_ret
    exact ⟨ret_int H.out.symm, HB0.out⟩
end Go.Proofs.YtgjlonilbhlneaaGreatDoor

/-
  The walk of kinref1.Kinds.
-/
namespace Go.Proofs.YtgjlonilbhlneaaGreatDoor
open Go.RowKit
set_option linter.unusedVariables false
set_option linter.unusedSimpArgs false

set_option maxHeartbeats 8000000 in
set_option maxRecDepth 100000 in
theorem rkinds_some (b off cap : Nat) (L : List Kd) (w : World) (hb : b < w.heap.size) (hL : LiesK w b off L) (hP : Parts w L) (hz : SzK L) (hn : L.length ≤ 12) (hc : L.length ≤ cap) (hcm : cap ≤ maxLen) :
    Calls Tryz.prog 19 #[.slice (some ⟨b, off, none⟩) L.length cap] w fun e w' => e = .returned (.tuple #[.string (bs (ksErr L).1), .int .i64 (ksErr L).2]) ∧ Below w.heap.size w w' := by
  have HH : Hid (LiesK w b off L ∧ Parts w L ∧ SzK L ∧ cap ≤ maxLen ∧ ksErr L = ksGo [] L) := ⟨hL, hP, hz, hcm, by unfold ksErr; rw [if_neg (by omega)]⟩
  unfold maxLen at hcm
  clear hL hP hz
  go_enter Tryz.func19, Tryz.ntmps19
  go_wp2
  go_loopw [4, 5] (fun i _ wr => ∃ k : Nat, k ≤ L.length ∧ i = .int .i64 k ∧ (ksErr L = ksGo (L.take k) (L.drop k) ∧ Good (L.take k)) ∧ Below w.heap.size w wr) (fun i _ _ => L.length - (intOf i).toNat)
  case atStart => exact ⟨0, Nat.zero_le _, rfl, ⟨by rw [HH.out.2.2.2.2]; rfl, fun i k hk => by simp at hk⟩, Below.refl _ _⟩
  case round =>
    obtain ⟨k, hk, rfl, hg, hB⟩ := hrel
    have HG : Hid (ksErr L = ksGo (L.take k) (L.drop k) ∧ Good (L.take k)) := hg
    clear hg
    by_cases hlt : k < L.length
    · obtain ⟨p, hp⟩ : ∃ p, L[k]? = some p := ⟨L[k], by simp [hlt]⟩
      obtain ⟨hL, hP, hz, hcm', _⟩ := HH.out
      obtain ⟨c0, c1, c2⟩ := hL k p hp
      have cc := rk_some b off cap L k p wr (Nat.lt_of_lt_of_le hb hB.size) (hL.on hb hB) (hP.on hB) hz hn hc hcm' hp HG.out.2
      have HD : Hid (L.drop k = p :: L.drop (k + 1) ∧ L.take (k + 1) = L.take k ++ [p] ∧ L[k]? = some p) := ⟨dropK hp, takeK hp, hp⟩
      have hki : (k : Int) < (L.length : Int) := by omega
      by_cases he : kErr (L.take k) p = 0
      · rw [he] at cc
        have HS : Hid (ksErr L = ksGo (L.take (k + 1)) (L.drop (k + 1)) ∧ Good (L.take (k + 1))) := by
          obtain ⟨h1, h2⟩ := HG.out
          obtain ⟨e1, e2, e3⟩ := HD.out
          refine ⟨?_, ?_⟩
          · rw [h1, e1, e2]
            conv => lhs; unfold ksGo
            rw [if_pos he]
          · intro i x hx
            rw [List.getElem?_take] at hx
            split at hx
            · rename_i hi
              rw [List.take_take, Nat.min_eq_left (by omega)]
              by_cases hik : i = k
              · subst hik
                rw [e3] at hx
                obtain rfl := Option.some.inj hx
                exact he
              · have := h2 i x (by rw [List.getElem?_take, if_pos (by omega)]; exact hx)
                rwa [List.take_take, Nat.min_eq_left (by omega)] at this
            · cases hx
        clear HG he hL hP hz hcm' c0 c1 c2 hp
        go_wp2_with (go_at_call 43; refine cc.mono ?_; rintro e w' ⟨rfl, hB1⟩)
        go_roundw
        case rel => exact ⟨k + 1, by omega, by go_num, HS.out, on1 hB hB1 (Nat.le_refl _)⟩
        case measure => simp [intOf]; omega
      · have HS : Hid (ksErr L = (p.nm, kErr (L.take k) p) ∧ ¬ kErr (L.take k) p = 0) := by
          refine ⟨?_, he⟩
          rw [HG.out.1, HD.out.1]
          conv => lhs; unfold ksGo
          rw [if_neg he]
        obtain ⟨x, hx⟩ : ∃ x, x = kErr (L.take k) p := ⟨_, rfl⟩
        rw [← hx] at cc he
        have hxb : (x != 0) = true := by simpa using he
        have HXX : Hid (x = kErr (L.take k) p) := hx
        clear HG hL hP hz hcm' c1 c2 hp hx
        have hBr := hB
        go_wp2_with (go_at_call 43; refine cc.mono ?_; rintro e W1 ⟨rfl, hB1⟩; refine Hid.out ?_)
        refine Lib.hid ?_
        have hBt := on1 hB hB1 (Nat.le_refl _)
        have g0 := (hBt.cell (p := ⟨b, off + k * 3, none⟩) hb).trans c0
        clear cc
        go_wp2
        go_ret2
        exact ⟨ret_v (by rw [HS.out.1, HXX.out]; rfl), hBt⟩
    · have hd : L.drop k = [] := List.drop_eq_nil_of_le (by omega)
      have H : Hid (ksErr L = ([], 0)) := by
        show _ = _
        rw [HG.out.1, hd]; rfl
      clear HG hd
      go_wp2
      go_ret2
      exact ⟨ret_v (by rw [H.out]; rfl), hB⟩
set_option maxHeartbeats 1000000 in
theorem rkinds_nil (w : World) : Calls Tryz.prog 19 #[.slice none 0 0] w fun e w' => e = .returned (.tuple #[.string (bs (ksErr []).1), .int .i64 (ksErr []).2]) ∧ Below w.heap.size w w' := by
  go_enter Tryz.func19, Tryz.ntmps19
  go_wp2
  go_loopw [4, 5] (fun i _ wr => i = .int .i64 0 ∧ wr = w) (fun i _ _ => 0)
  case atStart => exact ⟨rfl, rfl⟩
  case round =>
    obtain ⟨rfl, rfl⟩ := hrel
    go_wp2
    go_ret2
    exact ⟨rfl, Below.refl _ _⟩
set_option maxHeartbeats 1000000 in
theorem rkinds_many (ao : Option Addr) (n cap : Nat) (w : World) (h : 12 < n) (hm : n ≤ maxLen) : Calls Tryz.prog 19 #[.slice ao n cap] w fun e w' => e = .returned (.tuple #[.string ⟨#[]⟩, .int .i64 4]) ∧ Below w.heap.size w w' := by
  unfold maxLen at hm
  go_enter Tryz.func19, Tryz.ntmps19
  go_wp2
  go_ret2
  exact ⟨rfl, Below.refl _ _⟩
theorem rkinds_any {v : Value} {L : List Kd} {w : World} (h : IsK w v L) (hP : Parts w L) (hz : SzK L) : Calls Tryz.prog 19 #[v] w fun e w' => e = .returned (.tuple #[.string (bs (ksErr L).1), .int .i64 (ksErr L).2]) ∧ Below w.heap.size w w' := by
  rcases h with ⟨rfl, rfl⟩ | ⟨b, off, cap, rfl, hc, hm, hb, hl⟩
  · exact rkinds_nil w
  · by_cases h8 : 12 < L.length
    · have e : ksErr L = ([], 4) := by unfold ksErr; rw [if_pos h8]
      rw [e]; exact rkinds_many _ _ _ _ h8 (by omega)
    · exact rkinds_some b off cap L w hb hl hP hz (by omega) hc hm
end Go.Proofs.YtgjlonilbhlneaaGreatDoor
