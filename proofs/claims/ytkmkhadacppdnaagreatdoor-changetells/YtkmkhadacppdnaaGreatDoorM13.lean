/-
  The walks of kinref2.with and own.
-/
import Derived.Test.YtkmkhadacppdnaaGreatDoorM12
namespace Go.Proofs.YtkmkhadacppdnaaGreatDoor
open Go.RowKit
set_option linter.unusedVariables false
set_option linter.unusedSimpArgs false

theorem isF_cap {w : World} {v : Value} {l : List Fd} (h : IsF w v l) : ∃ ao c, v = .slice ao l.length c ∧ l.length ≤ c := by
  rcases h with ⟨ao, c, rfl, rfl, _⟩ | ⟨b, off, cap, rfl, hc, _⟩
  · exact ⟨ao, c, rfl, Nat.zero_le _⟩
  · exact ⟨_, cap, rfl, hc⟩
theorem hasC_take {w : World} {ao : Option Addr} {n c k sz : Nat} {xs : List Value} (h : HasC w (.slice ao n c) n xs) (hk : k ≤ n) (hl : xs.length = n * sz) : HasC w (.slice ao k c) k (xs.take (k * sz)) := by
  obtain ⟨ao', c', e', ⟨h0, rfl⟩ | ⟨b, off, rfl, hb, hL⟩⟩ := h
  · exact ⟨ao, c, rfl, .inl ⟨by omega, by simp⟩⟩
  · injection e' with e1 e2 e3
    subst e1
    refine ⟨_, c, rfl, .inr ⟨b, off, rfl, hb, fun j u hu => ?_⟩⟩
    rw [List.getElem?_take] at hu
    split at hu
    · exact hL j u hu
    · cases hu
theorem lo_leR (nm : Nm) : ∀ l : List Fd, lo nm l ≤ l.length
  | [] => Nat.le_refl _
  | g :: r => by unfold lo; split <;> simp [lo_leR nm r]
theorem cellsF_takeR (l : List Fd) (k : Nat) : cellsF (l.take k) = (cellsF l).take (k * 4) := flatK_take (f := Fd.cells) (sz := 4) (fun _ => rfl) l k
theorem cellsF_dropR (l : List Fd) (k : Nat) : cellsF (l.drop k) = (cellsF l).drop (k * 4) := flatK_drop (f := Fd.cells) (sz := 4) (fun _ => rfl) l k
theorem cellsF_lenR (l : List Fd) : (cellsF l).length = l.length * 4 := flatK_len (f := Fd.cells) (sz := 4) (fun _ => rfl) l
theorem cellsF_oneR (l : List Fd) : ∀ u ∈ cellsF l, u.oneCell' = true := by
  intro u hu
  obtain ⟨f, _, hf⟩ := List.mem_flatMap.1 hu
  simp [Fd.cells] at hf
  rcases hf with rfl | rfl | rfl | rfl <;> rfl

/-- What lies behind the first fields. -/
def WiR (w : World) (f : Fd) (n : Nat) (xs : List Value) (v' : Value) (w' : World) : Prop := w'.ownsRow w.heap.size 33 4 v' n xs ∧ Below w.heap.size w w' ∧ w'.heap[w.heap.size]? = some (.cells #[.string (bs f.nm), .int .i64 f.t, .bool f.must, .bool f.key] 33 (0, 0))
set_option maxHeartbeats 8000000 in
set_option maxRecDepth 100000 in
theorem rwith_any {w : World} {v : Value} {l : List Fd} (h : IsF w v l) (hn : l.length ≤ 100) (f : Fd) :
    Calls Tryz.prog 19 #[v, .agg #[.string (bs f.nm), .int .i64 f.t, .bool f.must, .bool f.key]] w fun e w' => ∃ u, e = .returned u ∧ w'.ownsRow w.heap.size 33 4 u (insA l f).length (cellsF (insA l f)) ∧ Below w.heap.size w w' := by
  obtain ⟨i0, hi0, hz0, hz1, hz2⟩ := info_parts infoFdI
  have hH := hasF h
  obtain ⟨af0, cf0, e0, hv⟩ := isF_viewR h
  obtain ⟨af, cf, rfl, hcf⟩ := isF_cap h
  injection e0 with e01 _ e02
  subst e01 e02
  obtain ⟨W0, hW0⟩ : ∃ W0, W0 = w.alloc (.cells #[.string (bs f.nm), .int .i64 f.t, .bool f.must, .bool f.key] 33) := ⟨_, rfl⟩
  have hB0 : Below w.heap.size w W0 := by rw [hW0]; exact b_alloc (Below.refl _ _) _
  have n0 : W0.heap[w.heap.size]? = some (.cells #[.string (bs f.nm), .int .i64 f.t, .bool f.must, .bool f.key] 33 (0, 0)) := by rw [hW0]; exact heap_alloc_new w _
  have HB : Hid (Below w.heap.size w W0) := hB0
  have HN : Hid (W0.heap[w.heap.size]? = some (.cells #[.string (bs f.nm), .int .i64 f.t, .bool f.must, .bool f.key] 33 (0, 0))) := n0
  have HV := Lib.hid hv
  have HC : Hid (HasC w (.slice af l.length cf) l.length (cellsF l)) := hH
  clear h hv hB0 n0 hH
  go_enter Tryz.func19, Tryz.ntmps19
  go_upto_region 1 with fail
  rw [← hW0]
  clear hW0
  go_wp2
  go_loopw [6] (fun i wr => ∃ k : Nat, k ≤ l.length ∧ i = .int .i64 k ∧ lo f.nm l = k + lo f.nm (l.drop k) ∧ Below W0.heap.size W0 wr) (fun i _ => l.length - (intOf i).toNat)
  case atStart => exact ⟨0, Nat.zero_le _, rfl, by simp, Below.refl _ _⟩
  case round =>
    obtain ⟨k, hk, rfl, hi, hBr⟩ := hrel
    have HI : Hid (lo f.nm l = k + lo f.nm (l.drop k)) := hi
    have hl0 := (Array.getElem?_eq_some_iff.1 HN.out).1
    have nr := (hBr.block w.heap.size hl0).trans HN.out
    have d0 : wr.cell? ⟨w.heap.size, 0, none⟩ = some (.string (bs f.nm)) := cell_at nr rfl
    have HNr : Hid (wr.heap[w.heap.size]? = some (.cells #[.string (bs f.nm), .int .i64 f.t, .bool f.must, .bool f.key] 33 (0, 0))) := nr
    have HBr : Hid (Below W0.heap.size W0 wr) := hBr
    clear hi hBr nr hl0
    by_cases hgo : k < l.length ∧ ∃ p, l[k]? = some p ∧ Op.bytesLess p.nm f.nm = true
    · obtain ⟨hlt, p, hp, hls⟩ := hgo
      obtain ⟨b, o, rfl, hbl, c0', _⟩ := HV.out k p hp
      have c0 := ((on1K HB.out HBr.out (Nat.le_refl _)).cell (p := ⟨b, o + k * 4, none⟩) hbl).trans c0'
      have H : Hid (lo f.nm l = (k + 1) + lo f.nm (l.drop (k + 1))) := by
        show _ = _
        rw [HI.out, dropK hp]; conv => lhs; unfold lo
        rw [if_pos hls]; omega
      have hlti : (k : Int) < (l.length : Int) := by omega
      clear hp c0' hbl HI
      go_wp2_with fail
      go_quiet (fail)
      go_wp2
      refine ⟨?_, ?_⟩
      · first | exact ⟨k + 1, by omega, by go_num, H.out, b_drewK HBr.out _⟩ | ((repeat apply Exists.intro); refine ⟨?_, rfl⟩; exact ⟨k + 1, by omega, by go_num, H.out, b_drewK HBr.out _⟩)
      · simp [intOf]
        try omega
    · have H : Hid (lo f.nm l = k) := by
        show _ = _
        rw [HI.out]
        by_cases hlt : k < l.length
        · obtain ⟨p, hp⟩ : ∃ p, l[k]? = some p := ⟨l[k], by simp [hlt]⟩
          rw [dropK hp]
          unfold lo
          rw [if_neg (fun hls => hgo ⟨hlt, p, hp, hls⟩)]
          rfl
        · rw [List.drop_eq_nil_of_le (by omega)]
          rfl
      have hsp : ((k : Int) < (l.length : Int) ∧ ∃ p, l[k]? = some p ∧ Op.bytesLess p.nm f.nm = false) ∨ ¬ (k : Int) < (l.length : Int) := by
        by_cases hlt : k < l.length
        · left
          refine ⟨by omega, l[k], by simp [hlt], ?_⟩
          cases hb : Op.bytesLess (l[k]).nm f.nm with
          | false => rfl
          | true => exact absurd ⟨hlt, l[k], by simp [hlt], hb⟩ hgo
        · right; omega
      have hkc : k ≤ cf := Nat.le_trans hk hcf
      have HE : Hid (insA l f = l.take k ++ f :: l.drop k) := by
        show _ = _
        unfold insA
        rw [H.out]
      have HA1 : Hid (∀ n ty, ∃ v' w', (Builtin.append_ #[27, 27] ty #[.slice none 0 0, .slice af k cf]).run Tryz.prog (wr.drewN n) = .ok v' w' ∧ WiR w f k (cellsF (l.take k)) v' w') := fun n ty => by
        have hB1 : Below w.heap.size w (wr.drewN n) := b_drewK (on1K HB.out HBr.out (Nat.le_refl _)) n
        have hx := (hasC_take (sz := 4) (HC.out.on hB1) hk (cellsF_lenR l))
        rw [← cellsF_takeR] at hx
        obtain ⟨v', w', r1, r2, r3⟩ := run_clone (P := Tryz.prog) (wr.drewN n) w.heap.size 27 ty 33 i0 _ 4 32 Tryz.underlying27 hi0 hz0 hz1 hz2 rfl (by decide) (.slice af k cf) k (cellsF (l.take k)) hx (by rw [cellsF_lenR, List.length_take_of_le hk]) (cellsF_oneR _) (by unfold maxLen; omega) (by omega) hB1.size
        exact ⟨v', w', r1, r2, below_grown hB1 r3 hB1.size (fun g hg => by cases hg), (r3.block w.heap.size (Array.getElem?_eq_some_iff.1 HNr.out).1 (by simp)).trans HNr.out⟩
      have HA2 : Hid (∀ v1 w1, WiR w f k (cellsF (l.take k)) v1 w1 → ∀ ty, ∃ v' w', (Builtin.append_ #[27, 27] ty #[v1, .slice (some ⟨w1.heap.size, 0, none⟩) 1 1]).run Tryz.prog (w1.alloc (.cells #[.string (bs f.nm), .int .i64 f.t, .bool f.must, .bool f.key] 33)) = .ok v' w' ∧ (w'.ownsRow w.heap.size 33 4 v' (k + 1) (cellsF (l.take k) ++ f.cells) ∧ Below w.heap.size w w')) := fun v1 w1 h1 ty => by
        have hB2 := b_allocK h1.2.1 (Nat.le_refl _) (.cells #[.string (bs f.nm), .int .i64 f.t, .bool f.must, .bool f.key] 33)
        have n1 := heap_alloc_new w1 (.cells #[.string (bs f.nm), .int .i64 f.t, .bool f.must, .bool f.key] 33)
        obtain ⟨v', w', r1, r2, r3⟩ := run_appC (P := Tryz.prog) _ w.heap.size 27 ty 33 i0 _ 4 32 Tryz.underlying27 hi0 hz0 hz1 hz2 rfl (by decide) v1 k (cellsF (l.take k)) (h1.1.alloc _) (.slice (some ⟨w1.heap.size, 0, none⟩) 1 1) 1 f.cells ⟨_, 1, rfl, .inr ⟨w1.heap.size, 0, rfl, (Array.getElem?_eq_some_iff.1 n1).1, fun j u hu => by
          rw [Addr.add_lit, Nat.zero_add]
          exact cell_at n1 (by simpa [Fd.cells] using hu)⟩⟩ rfl (fun u hu => by simp [Fd.cells] at hu; rcases hu with rfl | rfl | rfl | rfl <;> rfl) (by unfold maxLen; omega) (by omega) hB2.size
        exact ⟨v', w', r1, r2, below_grown hB2 r3 hB2.size (fun g hg => (h1.1.lt g hg).1)⟩
      have HC3 : Hid (∀ w2, Below w.heap.size w w2 → HasC w2 (.slice af l.length cf) l.length (cellsF l)) := fun w2 hB => HC.out.on hB
      have HA3 : Hid (∀ v2 w2, w2.ownsRow w.heap.size 33 4 v2 (k + 1) (cellsF (l.take k) ++ f.cells) → Below w.heap.size w w2 → ∀ v3, HasC w2 v3 (l.length - k) ((cellsF l).drop (k * i0.size)) → ∀ ty, ∃ v' w', (Builtin.append_ #[27, 27] ty #[v2, v3]).run Tryz.prog w2 = .ok v' w' ∧ (w'.ownsRow w.heap.size 33 4 v' (insA l f).length (cellsF (insA l f)) ∧ Below w.heap.size w w')) := fun v2 w2 h2 hB3 v3 h3 ty => by
        rw [hz1, ← cellsF_dropR] at h3
        obtain ⟨v', w', r1, r2, r3⟩ := run_appC (P := Tryz.prog) w2 w.heap.size 27 ty 33 i0 _ 4 32 Tryz.underlying27 hi0 hz0 hz1 hz2 rfl (by decide) v2 (k + 1) _ h2 v3 (l.length - k) (cellsF (l.drop k)) h3 (by rw [cellsF_lenR, List.length_drop]) (cellsF_oneR _) (by unfold maxLen; omega) (by omega) hB3.size
        refine ⟨v', w', r1, ?_, below_grown hB3 r3 hB3.size (fun g hg => (h2.lt g hg).1)⟩
        have e1 : cellsF (insA l f) = cellsF (l.take k) ++ f.cells ++ cellsF (l.drop k) := by rw [HE.out]; simp [cellsF]
        have e2 : (insA l f).length = k + 1 + (l.length - k) := by rw [HE.out]; simp; omega
        rw [e1, e2]
        exact r2
      have hlen : (cellsF l).length = l.length * i0.size := by rw [hz1]; exact cellsF_lenR l
      have HLN := Lib.hid hlen
      clear hgo HI H HE hlen
      rcases hsp with ⟨hlti, p, hp, hls⟩ | hlti
      · obtain ⟨b, o, rfl, hbl, c0', _⟩ := HV.out k p hp
        have c0 := ((on1K HB.out HBr.out (Nat.le_refl _)).cell (p := ⟨b, o + k * 4, none⟩) hbl).trans c0'
        have hd : decide (k < l.length) = true := decide_eq_true (by omega)
        clear hp c0' hbl
        go_wp2_with fail
        go_quiet (fail)
        go_wp2_with (first | (refine wpList_slHi rfl 27 (.tmp 24) (.tmp 25) rfl 33 i0 Tryz.underlying27 hi0 _ _ _ k rfl rfl hkc ?_) | (refine wpList_append_E rfl (.tmp 23) (.tmp 26) 27 rfl _ _ rfl rfl (HA1.out _ _) ?_; rintro v1 w1 h1; refine Hid.out ?_))
        refine Lib.hid ?_
        have b0 : w1.cell? ⟨w.heap.size, 0, none⟩ = some (.string (bs f.nm)) := cell_at h1.2.2 rfl
        have b1 : w1.cell? ⟨w.heap.size, 1, none⟩ = some (.int .i64 f.t) := cell_at h1.2.2 rfl
        have b2 : w1.cell? ⟨w.heap.size, 2, none⟩ = some (.bool f.must) := cell_at h1.2.2 rfl
        have b3 : w1.cell? ⟨w.heap.size, 3, none⟩ = some (.bool f.key) := cell_at h1.2.2 rfl
        have HA2' := Lib.hid (HA2.out v1 w1 h1)
        clear h1 HA1 HA2
        go_upto_region 7 with (refine wpList_append_E rfl (.tmp 28) (.tmp 30) 27 rfl v1 (.slice (some ⟨w1.heap.size, 0, none⟩) 1 1) (by first | rfl | simp [Act.eval, Act.put]) (by first | rfl | simp [Act.eval, Act.put]) (HA2'.out _) ?_; rintro v2 w2 ⟨h2, hB2⟩)
        have HA3' := Lib.hid (HA3.out v2 w2 h2 hB2)
        have HC3' := Lib.hid (HC3.out w2 hB2)
        clear h2 hB2 HA3 HC3 HA2'
        go_wp2_with (first | (refine wpList_slLo rfl 27 (.tmp 33) (.tmp 34) rfl 33 i0 Tryz.underlying27 hi0 _ _ _ k (by first | rfl | simp [Act.eval, Act.put]) (by first | rfl | simp [Act.eval, Act.put]) HC3'.out hk hcf HLN.out ?_; intro v3 h3; have H3 := Lib.hid h3; clear h3) | (refine wpList_append_E rfl (.tmp 32) (.tmp 35) 27 rfl v2 v3 (by first | rfl | simp [Act.eval, Act.put]) (by first | rfl | simp [Act.eval, Act.put]) (HA3'.out _ H3.out _) ?_; rintro v4 w4 h4; have H4 := Lib.hid h4; clear h4))
        go_ret
        exact ⟨_, rfl, H4.out⟩
      · have hd : decide (k < l.length) = false := decide_eq_false (by omega)
        go_wp2_with fail
        go_quiet (fail)
        go_wp2_with (first | (refine wpList_slHi rfl 27 (.tmp 24) (.tmp 25) rfl 33 i0 Tryz.underlying27 hi0 _ _ _ k rfl rfl hkc ?_) | (refine wpList_append_E rfl (.tmp 23) (.tmp 26) 27 rfl _ _ rfl rfl (HA1.out _ _) ?_; rintro v1 w1 h1; refine Hid.out ?_))
        refine Lib.hid ?_
        have b0 : w1.cell? ⟨w.heap.size, 0, none⟩ = some (.string (bs f.nm)) := cell_at h1.2.2 rfl
        have b1 : w1.cell? ⟨w.heap.size, 1, none⟩ = some (.int .i64 f.t) := cell_at h1.2.2 rfl
        have b2 : w1.cell? ⟨w.heap.size, 2, none⟩ = some (.bool f.must) := cell_at h1.2.2 rfl
        have b3 : w1.cell? ⟨w.heap.size, 3, none⟩ = some (.bool f.key) := cell_at h1.2.2 rfl
        have HA2' := Lib.hid (HA2.out v1 w1 h1)
        clear h1 HA1 HA2
        go_upto_region 7 with (refine wpList_append_E rfl (.tmp 28) (.tmp 30) 27 rfl v1 (.slice (some ⟨w1.heap.size, 0, none⟩) 1 1) (by first | rfl | simp [Act.eval, Act.put]) (by first | rfl | simp [Act.eval, Act.put]) (HA2'.out _) ?_; rintro v2 w2 ⟨h2, hB2⟩)
        have HA3' := Lib.hid (HA3.out v2 w2 h2 hB2)
        have HC3' := Lib.hid (HC3.out w2 hB2)
        clear h2 hB2 HA3 HC3 HA2'
        go_wp2_with (first | (refine wpList_slLo rfl 27 (.tmp 33) (.tmp 34) rfl 33 i0 Tryz.underlying27 hi0 _ _ _ k (by first | rfl | simp [Act.eval, Act.put]) (by first | rfl | simp [Act.eval, Act.put]) HC3'.out hk hcf HLN.out ?_; intro v3 h3; have H3 := Lib.hid h3; clear h3) | (refine wpList_append_E rfl (.tmp 32) (.tmp 35) 27 rfl v2 v3 (by first | rfl | simp [Act.eval, Act.put]) (by first | rfl | simp [Act.eval, Act.put]) (HA3'.out _ H3.out _) ?_; rintro v4 w4 h4; have H4 := Lib.hid h4; clear h4))
        go_ret
        exact ⟨_, rfl, H4.out⟩
end Go.Proofs.YtkmkhadacppdnaaGreatDoor

/-
  The walk of kinref2.own: kinds of which one is another one.
-/
namespace Go.Proofs.YtkmkhadacppdnaaGreatDoor
open Go.RowKit
set_option linter.unusedVariables false
set_option linter.unusedSimpArgs false

theorem hasKd {w : World} {v : Value} {L : List Kd} (h : IsK w v L) : HasC w v L.length (cellsK L) := by
  rcases h with ⟨rfl, rfl⟩ | ⟨b, off, cap, rfl, _, _, hb, hl⟩
  · exact ⟨none, 0, rfl, .inl ⟨rfl, rfl⟩⟩
  · refine ⟨_, cap, rfl, .inr ⟨b, off, rfl, hb, fun j u hu => ?_⟩⟩
    obtain ⟨k, x, i, hk, hi, rfl, hx⟩ := flatK_inv kd_len L hu
    obtain ⟨c0, c1, c2⟩ := hl k x hk
    rw [Addr.add_lit, ← Nat.add_assoc]
    have : i = 0 ∨ i = 1 ∨ i = 2 := by omega
    rcases this with rfl | rfl | rfl <;> (simp only [Kd.cells] at hx; simp at hx; subst hx)
    · exact c0
    · exact c1
    · exact c2
theorem cellsK_takeR (l : List Kd) (k : Nat) : cellsK (l.take k) = (cellsK l).take (k * 3) := flatK_take (f := Kd.cells) (sz := 3) kd_len l k
theorem cellsK_dropR (l : List Kd) (k : Nat) : cellsK (l.drop k) = (cellsK l).drop (k * 3) := flatK_drop (f := Kd.cells) (sz := 3) kd_len l k
theorem cellsK_lenR (l : List Kd) : (cellsK l).length = l.length * 3 := flatK_len (f := Kd.cells) (sz := 3) kd_len l
theorem cellsK_setR (l : List Kd) (i : Nat) (k : Kd) (hi : i < l.length) : cellsK (l.set i k) = cellsK (l.take i) ++ k.cells ++ cellsK (l.drop (i + 1)) := by rw [cellsK_takeR, cellsK_dropR]; exact flatK_set kd_len l i k hi
/-- What lies behind the first kinds. -/
def OnR (w : World) (kn : Nm) (vo vf : Value) (n : Nat) (xs : List Value) (v' : Value) (w' : World) : Prop := w'.ownsRow w.heap.size 29 3 v' n xs ∧ Below w.heap.size w w' ∧ w'.heap[w.heap.size]? = some (.cells #[.string (bs kn), vo, vf] 29 (0, 0))
set_option maxHeartbeats 8000000 in
set_option maxRecDepth 100000 in
theorem rown_any {w : World} {v : Value} {L : List Kd} (h : IsK w v L) (hP : Parts w L) (hn : L.length ≤ 100) (i : Nat) (hi : i < L.length) (k : Kd) (hks : IsS w k.vo k.of) (hkf : IsF w k.vf k.fs) :
    Calls Tryz.prog 21 #[v, .int .i64 (i : Int), .agg #[.string (bs k.nm), k.vo, k.vf]] w fun e w' => ∃ u, e = .returned u ∧ w'.ownsRow w.heap.size 29 3 u L.length (cellsK (L.set i k)) ∧ Below w.heap.size w w' := by
  obtain ⟨i0, hi0, hz0, hz1, hz2⟩ := info_parts infoKd
  have hH := hasKd h
  have h1 := cellsK_one hP.one
  rcases h with ⟨rfl, rfl⟩ | ⟨b, off, cap, rfl, hcf, hm, hb, hl⟩
  · simp at hi
  obtain ⟨kn, ko, kf, vo, vf⟩ := k
  obtain ⟨ao, lo1, co, q1⟩ := hks.sl
  obtain ⟨af, lf1, cf, q2⟩ := hkf.sl
  simp only at q1 q2
  subst q1 q2
  obtain ⟨W0, hW0⟩ : ∃ W0, W0 = w.alloc (.cells #[.string (bs kn), .slice ao lo1 co, .slice af lf1 cf] 29) := ⟨_, rfl⟩
  have hB0 : Below w.heap.size w W0 := by rw [hW0]; exact b_alloc (Below.refl _ _) _
  have n0 : W0.heap[w.heap.size]? = some (.cells #[.string (bs kn), .slice ao lo1 co, .slice af lf1 cf] 29 (0, 0)) := by rw [hW0]; exact heap_alloc_new w _
  have hic : i ≤ cap := by omega
  have hw1 : IntKind.i64.wrap ((i : Int) + 1) = ((i + 1 : Nat) : Int) := by rw [IntKind.wrap_i64]; omega
  have HA1 : Hid (∀ ty, ∃ v' w', (Builtin.append_ #[22, 22] ty #[.slice none 0 0, .slice (some ⟨b, off, none⟩) i cap]).run Tryz.prog W0 = .ok v' w' ∧ OnR w kn (.slice ao lo1 co) (.slice af lf1 cf) i (cellsK (L.take i)) v' w') := fun ty => by
    have hx := hasC_take (sz := 3) (hH.on hB0) (Nat.le_of_lt hi) (cellsK_lenR L)
    rw [← cellsK_takeR] at hx
    obtain ⟨v', w', r1, r2, r3⟩ := run_clone (P := Tryz.prog) W0 w.heap.size 22 ty 29 i0 _ 3 64 Tryz.underlying22 hi0 hz0 hz1 hz2 rfl (by decide) (.slice (some ⟨b, off, none⟩) i cap) i (cellsK (L.take i)) hx (by rw [cellsK_lenR, List.length_take_of_le (Nat.le_of_lt hi)]) (fun u hu => h1 u (by rw [cellsK_takeR] at hu; exact List.mem_of_mem_take hu)) (by unfold maxLen; omega) (by omega) hB0.size
    exact ⟨v', w', r1, r2, below_grown hB0 r3 hB0.size (fun g hg => by cases hg), (r3.block w.heap.size (Array.getElem?_eq_some_iff.1 n0).1 (by simp)).trans n0⟩
  have HA2 : Hid (∀ v1 w1, OnR w kn (.slice ao lo1 co) (.slice af lf1 cf) i (cellsK (L.take i)) v1 w1 → ∀ ty, ∃ v' w', (Builtin.append_ #[22, 22] ty #[v1, .slice (some ⟨w1.heap.size, 0, none⟩) 1 1]).run Tryz.prog (w1.alloc (.cells #[.string (bs kn), .slice ao lo1 co, .slice af lf1 cf] 29)) = .ok v' w' ∧ (w'.ownsRow w.heap.size 29 3 v' (i + 1) (cellsK (L.take i) ++ [.string (bs kn), .slice ao lo1 co, .slice af lf1 cf]) ∧ Below w.heap.size w w')) := fun v1 w1 h1' ty => by
    have hB2 := b_allocK h1'.2.1 (Nat.le_refl _) (.cells #[.string (bs kn), .slice ao lo1 co, .slice af lf1 cf] 29)
    have n1 := heap_alloc_new w1 (.cells #[.string (bs kn), .slice ao lo1 co, .slice af lf1 cf] 29)
    obtain ⟨v', w', r1, r2, r3⟩ := run_appC (P := Tryz.prog) _ w.heap.size 22 ty 29 i0 _ 3 64 Tryz.underlying22 hi0 hz0 hz1 hz2 rfl (by decide) v1 i (cellsK (L.take i)) (h1'.1.alloc _) (.slice (some ⟨w1.heap.size, 0, none⟩) 1 1) 1 [.string (bs kn), .slice ao lo1 co, .slice af lf1 cf] ⟨_, 1, rfl, .inr ⟨w1.heap.size, 0, rfl, (Array.getElem?_eq_some_iff.1 n1).1, fun j u hu => by
      rw [Addr.add_lit, Nat.zero_add]
      exact cell_at n1 (by simpa using hu)⟩⟩ rfl (fun u hu => by simp at hu; rcases hu with rfl | rfl | rfl <;> rfl) (by unfold maxLen; omega) (by omega) hB2.size
    exact ⟨v', w', r1, r2, below_grown hB2 r3 hB2.size (fun g hg => (h1'.1.lt g hg).1)⟩
  have HC3 : Hid (∀ w2, Below w.heap.size w w2 → HasC w2 (.slice (some ⟨b, off, none⟩) L.length cap) L.length (cellsK L)) := fun w2 hB => hH.on hB
  have HA3 : Hid (∀ v2 w2, w2.ownsRow w.heap.size 29 3 v2 (i + 1) (cellsK (L.take i) ++ [.string (bs kn), .slice ao lo1 co, .slice af lf1 cf]) → Below w.heap.size w w2 → ∀ v3, HasC w2 v3 (L.length - (i + 1)) ((cellsK L).drop ((i + 1) * i0.size)) → ∀ ty, ∃ v' w', (Builtin.append_ #[22, 22] ty #[v2, v3]).run Tryz.prog w2 = .ok v' w' ∧ (w'.ownsRow w.heap.size 29 3 v' L.length (cellsK (L.set i ⟨kn, ko, kf, .slice ao lo1 co, .slice af lf1 cf⟩)) ∧ Below w.heap.size w w')) := fun v2 w2 h2 hB3 v3 h3 ty => by
    rw [hz1, ← cellsK_dropR] at h3
    obtain ⟨v', w', r1, r2, r3⟩ := run_appC (P := Tryz.prog) w2 w.heap.size 22 ty 29 i0 _ 3 64 Tryz.underlying22 hi0 hz0 hz1 hz2 rfl (by decide) v2 (i + 1) _ h2 v3 (L.length - (i + 1)) (cellsK (L.drop (i + 1))) h3 (by rw [cellsK_lenR, List.length_drop]) (fun u hu => h1 u (by rw [cellsK_dropR] at hu; exact List.mem_of_mem_drop hu)) (by unfold maxLen; omega) (by omega) hB3.size
    refine ⟨v', w', r1, ?_, below_grown hB3 r3 hB3.size (fun g hg => (h2.lt g hg).1)⟩
    rw [cellsK_setR L i _ hi, show L.length = i + 1 + (L.length - (i + 1)) by omega]
    exact r2
  have hlen : (cellsK L).length = L.length * i0.size := by rw [hz1]; exact cellsK_lenR L
  have HLN := Lib.hid hlen
  have hi1 : i + 1 ≤ L.length := hi
  clear hH h1 hl hlen hB0 n0 hP hks hkf
  go_enter Tryz.func21, Tryz.ntmps21
  go_upto_region 1 with fail
  rw [← hW0]
  clear hW0
  go_upto_region 3 with (first | (refine wpList_slHi rfl 22 (.tmp 9) (.tmp 10) rfl 29 i0 Tryz.underlying22 hi0 _ _ _ i (by first | rfl | simp [Act.eval, Act.put]) (by first | rfl | simp [Act.eval, Act.put]) hic ?_) | (refine wpList_append_E rfl (.tmp 8) (.tmp 11) 22 rfl (.slice none 0 0) (.slice (some ⟨b, off, none⟩) i cap) (by first | rfl | simp [Act.eval, Act.put]) (by first | rfl | simp [Act.eval, Act.put]) (HA1.out _) ?_; rintro v1 w1 h1))
  have b0 : w1.cell? ⟨w.heap.size, 0, none⟩ = some (.string (bs kn)) := cell_at h1.2.2 rfl
  have b1 : w1.cell? ⟨w.heap.size, 1, none⟩ = some (.slice ao lo1 co) := cell_at h1.2.2 rfl
  have b2 : w1.cell? ⟨w.heap.size, 2, none⟩ = some (.slice af lf1 cf) := cell_at h1.2.2 rfl
  have HA2' := Lib.hid (HA2.out v1 w1 h1)
  clear h1 HA1 HA2
  go_upto_region 4 with (refine wpList_append_E rfl (.tmp 13) (.tmp 15) 22 rfl v1 (.slice (some ⟨w1.heap.size, 0, none⟩) 1 1) (by first | rfl | simp [Act.eval, Act.put]) (by first | rfl | simp [Act.eval, Act.put]) (HA2'.out _) ?_; rintro v2 w2 ⟨h2, hB2⟩)
  have HA3' := Lib.hid (HA3.out v2 w2 h2 hB2)
  have HC3' := Lib.hid (HC3.out w2 hB2)
  clear h2 hB2 HA3 HC3 HA2'
  go_wp2_with (first | (refine wpList_slLo rfl 22 (.tmp 18) (.tmp 20) rfl 29 i0 Tryz.underlying22 hi0 _ _ _ (i + 1) (by first | rfl | simp [Act.eval, Act.put]) (by first | rfl | simp [Act.eval, Act.put, hw1] | (simp [Act.eval, Act.put]; go_num)) HC3'.out hi1 hcf HLN.out ?_; intro v3 h3; have H3 := Lib.hid h3; clear h3) | (refine wpList_append_E rfl (.tmp 17) (.tmp 21) 22 rfl v2 v3 (by first | rfl | simp [Act.eval, Act.put]) (by first | rfl | simp [Act.eval, Act.put]) (HA3'.out _ H3.out _) ?_; rintro v4 w4 h4; have H4 := Lib.hid h4; clear h4))
  go_ret
  exact ⟨_, rfl, H4.out⟩
end Go.Proofs.YtkmkhadacppdnaaGreatDoor
