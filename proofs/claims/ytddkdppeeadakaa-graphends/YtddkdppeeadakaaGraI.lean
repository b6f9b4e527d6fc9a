/-
  The walks of In and of kinref2.In.
-/
import Derived.Test.YtddkdppeeadakaaGraH
namespace Go.Proofs.Ytddkdppeeadakaa
open Go.RowKit
set_option linter.unusedVariables false
set_option linter.unusedSimpArgs false

set_option maxHeartbeats 2000000 in
set_option maxRecDepth 100000 in
theorem in_any {vn vt : Value} {N : List Nd} {T : List Te} {w : World} (hN : IsN w vn N) (hT : IsT w vt T) (zN : SzN N) (zT : SzT T) (lN : N.length ≤ maxLen) (lT : T.length ≤ maxLen) (id : Int) (bd : ByteArray) :
    Calls Try.prog 4 #[.agg #[vn, vt], .int .i64 id, .string bd] w fun e w' => ∃ v, e = .returned (.tuple #[v, errV (fE N T id)]) ∧ (fE N T id = 0 → w'.ownsRow w.heap.size 3 1 v (inns T bd id).length (cellsI (inns T bd id))) ∧ (¬ fE N T id = 0 → v = .slice none 0 0) ∧ Below w.heap.size w w' := by
  obtain ⟨i0, hi0, hz0, hz1, hz2⟩ := info_parts infoI
  have hN' := hN
  obtain ⟨an, cn, rfl, hcn, hn⟩ := hN
  have hT' := hT
  obtain ⟨am, cm, rfl, hcm, hm⟩ := hT
  have hB : Below w.heap.size w (w.alloc (.cells #[.slice an N.length cn, .slice am T.length cm] 25)) := b_alloc (Below.refl _ _) _
  have cc := find_any (hN'.on hB) (hT'.on hB) zN zT lN lT id
  by_cases hf : fE N T id = 0
  · have hT0 : T.length ≤ 120 := by
      by_cases hg : gErr N T = 0
      · exact (gErr_len hg).2
      · rw [fE_bad id hg] at hf; exact absurd hf hg
    have HF : Hid (fE N T id = 0) := hf
    have HM : Hid (T = [] ∨ ∃ b off, am = some ⟨b, off, none⟩ ∧ b < w.heap.size ∧ LiesT w b off T) := hm
    rw [hf, errV_0] at cc
    have hg1 : (w.alloc (.cells #[.slice an N.length cn, .slice am T.length cm] 25)).cell? ⟨w.heap.size, 1, none⟩ = some (.slice am T.length cm) := by simp
    have HG : Hid (∀ W, Below (w.alloc (.cells #[.slice an N.length cn, .slice am T.length cm] 25)).heap.size (w.alloc (.cells #[.slice an N.length cn, .slice am T.length cm] 25)) W → W.cell? ⟨w.heap.size, 1, none⟩ = some (.slice am T.length cm)) := fun W hW => (hW.cell (by simp)).trans hg1
    clear hn hm hg1 hf hN' hT'
    go_enter Try.func4, Try.ntmps4
    go_wp2_with (first | (go_at_call 8; refine cc.mono ?_; rintro e W1 ⟨x, rfl, hB1⟩; have k0 := HG.out W1 hB1))
    have HW : Hid (Below w.heap.size w W1) := on1 hB hB1
    clear cc hB hB1 HG
    go_loopw [10, 25] (fun v i wr => OAt W1 T.length (fun k => inns (T.take k) bd id) v i wr) (fun _ i _ => T.length - (intOf i).toNat)
    case atStart => exact ⟨0, Nat.zero_le _, rfl, World.ownsRow_nil _ _ _ _, Below.refl _ _⟩
    case round =>
      obtain ⟨k, hk, rfl, ho, hB⟩ := hrel
      by_cases hlt : k < T.length
      · obtain ⟨t, ht⟩ : ∃ t, T[k]? = some t := ⟨T[k], by simp [hlt]⟩
        rcases HM.out with rfl | ⟨b, off, rfl, hb, hL⟩
        · exact absurd hlt (by simp)
        obtain ⟨c0, c1, c2⟩ := hL k t ht
        have hbw : Below w.heap.size w wr := on1 HW.out hB
        have d0 := (hbw.cell (p := ⟨b, off + k * 3, none⟩) hb).trans c0
        have d1 := (hbw.cell (p := ⟨b, off + k * 3 + 1, none⟩) hb).trans c1
        have d2 := (hbw.cell (p := ⟨b, off + k * 3 + 2, none⟩) hb).trans c2
        have hbr : b < wr.heap.size := Nat.lt_of_lt_of_le hb hbw.size
        have hbn : ¬ b = wr.heap.size := by omega
        have HP : Hid (T[k]? = some t) := ht
        clear c0 c1 c2 hL ht hbw
        obtain ⟨tb, tf, tt⟩ := t
        simp only at d0 d1 d2
        have HR : Hid (Below W1.heap.size W1 (wr.alloc (.cells #[.string tb, .int .i64 tf, .int .i64 tt] 31)) ∧ (wr.alloc (.cells #[.string tb, .int .i64 tf, .int .i64 tt] 31)).ownsRow W1.heap.size 3 1 u10 (inns (T.take k) bd id).length (cellsI (inns (T.take k) bd id))) := ⟨b_alloc hB _, ho.alloc _⟩
        by_cases hh : (tb.toList == bd.toList) = true ∧ tt = id
        · obtain ⟨h1, h2⟩ := hh
          have HE : Hid (inns (T.take (k + 1)) bd id = inns (T.take k) bd id ++ [tf]) := inns_hit HP.out h1 h2
          have h3 : (tt == id) = true := by simpa using h2
          have hle : (inns (T.take k) bd id).length ≤ k := Nat.le_trans (inns_le _ _ _) (List.length_take_le _ _)
          have HL : Hid ((inns (T.take k) bd id).length + 1 ≤ maxLen ∧ ((inns (T.take k) bd id).length + 1) * 8 ≤ 140737488355328) := by
            unfold maxLen; exact ⟨by omega, by omega⟩
          have HO : Hid (((wr.alloc (.cells #[.string tb, .int .i64 tf, .int .i64 tt] 31)).alloc (.cells #[.int .i64 tf] 3)).ownsRow W1.heap.size 3 1 u10 (inns (T.take k) bd id).length (cellsI (inns (T.take k) bd id)) ∧ Below W1.heap.size W1 ((wr.alloc (.cells #[.string tb, .int .i64 tf, .int .i64 tt] 31)).alloc (.cells #[.int .i64 tf] 3))) := ⟨HR.out.2.alloc _, b_alloc HR.out.1 _⟩
          clear hle ho hB HR h2
          go_wp2_with (at_builtin; refine wpList_append_own _ rfl (.tmp 39) (.tmp 42) 32 rfl W1.heap.size 3 i0 _ 1 8 Try.underlying32 hi0 hz0 hz1 hz2 rfl (by decide) u10 (inns (T.take k) bd id).length (cellsI (inns (T.take k) bd id)) rfl HO.out.1 ⟨wr.heap.size + 1, 0, none⟩ 1 1 [.int .i64 tf] (by simp [Act.eval]) rfl (by have := new_at (wr.alloc (.cells #[.string tb, .int .i64 tf, .int .i64 tt] 31)) [.int .i64 tf] 3; simpa using this) (by simp [Value.oneCell']) HL.out.1 HL.out.2 HO.out.2.size ?_; intro v1 w1 hown1 hgrow1 _; refine Hid.out ?_)
          refine Lib.hid ?_
          have HRR : Hid (OAt W1 T.length (fun k => inns (T.take k) bd id) v1 (.int .i64 ((k + 1 : Nat) : Int)) w1) := by
            refine ⟨k + 1, by omega, rfl, ?_, HO.out.2.grown hgrow1 HO.out.2.size (fun k hk => (HO.out.1.lt k hk).1)⟩
            simp only
            rw [HE.out, List.length_append, cellsI_app]
            exact hown1
          clear hown1
          go_wp2
          refine ⟨?_, ?_⟩
          · first | exact HRR.out | ((repeat apply Exists.intro); refine ⟨?_, rfl⟩; exact HRR.out)
          · simp [intOf]
            try omega
        · have HE : Hid (inns (T.take (k + 1)) bd id = inns (T.take k) bd id) := inns_miss HP.out (by
            by_cases h1 : (tb.toList == bd.toList) = true
            · exact .inr fun h2 => hh ⟨h1, h2⟩
            · exact .inl (by simpa [Te.hit] using h1))
          have HRR : Hid (OAt W1 T.length (fun k => inns (T.take k) bd id) u10 (.int .i64 ((k + 1 : Nat) : Int)) (wr.alloc (.cells #[.string tb, .int .i64 tf, .int .i64 tt] 31))) := by
            refine ⟨k + 1, by omega, rfl, ?_, HR.out.1⟩
            simp only
            rw [HE.out]
            exact HR.out.2
          clear ho hB HR HE
          by_cases h1 : (tb.toList == bd.toList) = true
          · have h3 : (tt == id) = false := by simpa using fun h2 => hh ⟨h1, h2⟩
            clear hh
            go_wp2
            refine ⟨?_, ?_⟩
            · first | exact HRR.out | ((repeat apply Exists.intro); refine ⟨?_, rfl⟩; exact HRR.out)
            · simp [intOf]
              try omega
          · have h1' : (tb.toList == bd.toList) = false := by simpa using h1
            clear hh h1
            go_wp2
            refine ⟨?_, ?_⟩
            · first | exact HRR.out | ((repeat apply Exists.intro); refine ⟨?_, rfl⟩; exact HRR.out)
            · simp [intOf]
              try omega
      · have hke : T.take k = T := List.take_of_length_le (by omega)
        simp only at ho
        rw [hke] at ho
        have HO : Hid (wr.ownsRow W1.heap.size 3 1 u10 (inns T bd id).length (cellsI (inns T bd id)) ∧ Below W1.heap.size W1 wr) := ⟨ho, hB⟩
        clear ho hB hke
        go_wp2
        go_ret2
        exact ⟨_, ret_v (by rw [HF.out]; rfl), fun _ => own_base HO.out.1 HW.out.size, fun h => absurd HF.out h, on1 HW.out HO.out.2⟩
  · have HF : Hid (¬ fE N T id = 0) := hf
    rw [errV_ne hf] at cc
    clear hf hn hm
    go_enter Try.func4, Try.ntmps4
    go_wp2_with (first | (go_at_call 8; refine cc.mono ?_; rintro e W1 ⟨x, rfl, hB1⟩))
    go_ret2
    exact ⟨.slice none 0 0, ret_v (by rw [errV_ne HF.out]; rfl), fun h => absurd h HF.out, fun _ => rfl, on1 hB hB1⟩

/-- The value is this list of integers. -/
def IsI (w : World) (v : Value) (L : List Int) : Prop :=
  (v = .slice none 0 0 ∧ L = []) ∨ ∃ b cap, v = .slice (some ⟨b, 0, none⟩) L.length cap ∧ L.length ≤ cap ∧ b < w.heap.size ∧ ∀ k x, L[k]? = some x → w.cell? ⟨b, k, none⟩ = some (.int .i64 x)
theorem IsI.on {w w' : World} {v : Value} {L : List Int} (h : IsI w v L) (hB : Below w.heap.size w w') : IsI w' v L := by
  rcases h with h | ⟨b, cap, rfl, hc, hb, hl⟩
  · exact .inl h
  · exact .inr ⟨b, cap, rfl, hc, Nat.lt_of_lt_of_le hb hB.size, fun k x hx => (hB.cell hb).trans (hl k x hx)⟩
theorem own_isI {w : World} {base : Nat} {v : Value} {M : List Int} (h : w.ownsRow base 3 1 v M.length (cellsI M)) : IsI w v M := by
  have hc : ∀ g, v.ownBlock = some g → ∀ j u, (cellsI M)[j]? = some u → w.cell? ((⟨g, 0, none⟩ : Addr).add j) = some u := fun g hg => h.cells hg
  rcases h.2 with ⟨rfl, h0⟩ | ⟨g, cap, cur, rfl, hb, hg, hle, hcm, hcs, ht⟩
  · exact .inl ⟨rfl, List.eq_nil_of_length_eq_zero h0⟩
  · refine .inr ⟨g, cap, rfl, hle, (Array.getElem?_eq_some_iff.1 hg).1, fun k p hp => ?_⟩
    have d0 := hc g rfl k (.int .i64 p) (by simp [cellsI, hp])
    rw [Addr.add_lit, Nat.zero_add] at d0
    exact d0
/-- What Out, and In, come to. -/
def outL (N : List Nd) (T : List Te) (bd : ByteArray) (id : Int) : List Int := if fE N T id = 0 then outs T bd id else []
def innL (N : List Nd) (T : List Te) (bd : ByteArray) (id : Int) : List Int := if fE N T id = 0 then inns T bd id else []
theorem out_all {vn vt : Value} {N : List Nd} {T : List Te} {w : World} (hN : IsN w vn N) (hT : IsT w vt T) (zN : SzN N) (zT : SzT T) (lN : N.length ≤ maxLen) (lT : T.length ≤ maxLen) (id : Int) (bd : ByteArray) :
    Calls Try.prog 6 #[.agg #[vn, vt], .int .i64 id, .string bd] w fun e w' => ∃ v, e = .returned (.tuple #[v, errV (fE N T id)]) ∧ IsI w' v (outL N T bd id) ∧ Below w.heap.size w w' := by
  refine (out_any hN hT zN zT lN lT id bd).mono ?_
  rintro e w' ⟨v, rfl, h1, h2, hB⟩
  refine ⟨v, rfl, ?_, hB⟩
  unfold outL
  by_cases hf : fE N T id = 0
  · rw [if_pos hf]; exact own_isI (h1 hf)
  · rw [if_neg hf, h2 hf]; exact .inl ⟨rfl, rfl⟩
theorem in_all {vn vt : Value} {N : List Nd} {T : List Te} {w : World} (hN : IsN w vn N) (hT : IsT w vt T) (zN : SzN N) (zT : SzT T) (lN : N.length ≤ maxLen) (lT : T.length ≤ maxLen) (id : Int) (bd : ByteArray) :
    Calls Try.prog 4 #[.agg #[vn, vt], .int .i64 id, .string bd] w fun e w' => ∃ v, e = .returned (.tuple #[v, errV (fE N T id)]) ∧ IsI w' v (innL N T bd id) ∧ Below w.heap.size w w' := by
  refine (in_any hN hT zN zT lN lT id bd).mono ?_
  rintro e w' ⟨v, rfl, h1, h2, hB⟩
  refine ⟨v, rfl, ?_, hB⟩
  unfold innL
  by_cases hf : fE N T id = 0
  · rw [if_pos hf]; exact own_isI (h1 hf)
  · rw [if_neg hf, h2 hf]; exact .inl ⟨rfl, rfl⟩
theorem IsI.sl {w : World} {v : Value} {L : List Int} (h : IsI w v L) : ∃ ao c, v = .slice ao L.length c := by
  rcases h with ⟨rfl, rfl⟩ | ⟨b, cap, rfl, _⟩
  · exact ⟨_, _, rfl⟩
  · exact ⟨_, _, rfl⟩

set_option maxHeartbeats 1000000 in
theorem kin_nil (n : Int) (w : World) : Calls Try.prog 7 #[.slice none 0 0, .int .i64 n] w fun e w' => e = .returned (.bool false) ∧ w' = w := by
  go_enter Try.func7, Try.ntmps7
  go_wp2
  go_loopw [5] (fun i wr => i = .int .i64 0 ∧ wr = w) (fun i _ => 0)
  case atStart => exact ⟨rfl, rfl⟩
  case round =>
    obtain ⟨rfl, rfl⟩ := hrel
    go_wp2
    go_ret
    exact ⟨rfl, rfl⟩
/-- Where the loop of kinref2.In stands. -/
def KAt (L : List Int) (n : Int) (w : World) (i : Value) (wr : World) : Prop := ∃ k : Nat, k ≤ L.length ∧ i = .int .i64 k ∧ L.contains n = (L.drop k).contains n ∧ wr = w
set_option maxHeartbeats 1000000 in
set_option maxRecDepth 100000 in
theorem kin_some (L : List Int) (b cap : Nat) (n : Int) (w : World) (hm : L.length ≤ 120) (hl : ∀ k x, L[k]? = some x → w.cell? ⟨b, k, none⟩ = some (.int .i64 x)) :
    Calls Try.prog 7 #[.slice (some ⟨b, 0, none⟩) L.length cap, .int .i64 n] w fun e w' => e = .returned (.bool (L.contains n)) ∧ w' = w := by
  obtain ⟨r, hr⟩ : ∃ r, L.contains n = r := ⟨_, rfl⟩
  have HR : Hid (L.contains n = r) := hr
  rw [hr]
  clear hr
  have HL : Hid (∀ k x, L[k]? = some x → w.cell? ⟨b, k, none⟩ = some (.int .i64 x)) := hl
  clear hl
  go_enter Try.func7, Try.ntmps7
  go_wp2
  go_loopw [5] (fun i wr => KAt L n w i wr) (fun i _ => L.length - (intOf i).toNat)
  case atStart => exact ⟨0, Nat.zero_le _, rfl, rfl, rfl⟩
  case round =>
    obtain ⟨k, hk, rfl, hx, rfl⟩ := hrel
    have HX : Hid (L.contains n = (L.drop k).contains n) := hx
    clear hx
    by_cases hlt : k < L.length
    · obtain ⟨x, hx⟩ : ∃ x, L[k]? = some x := ⟨L[k], by simp [hlt]⟩
      have d0 := HL.out k x hx
      have HD : Hid (L.drop k = x :: L.drop (k + 1)) := dropN hx
      clear hx
      by_cases he : x = n
      · have H : Hid (r = true) := by
          show _ = _
          rw [← HR.out, HX.out, HD.out]; simp [he]
        have hb' : (x == n) = true := by simpa using he
        clear HX HD
        go_wp2
        go_ret
        exact ⟨ret_bool H.out.symm, rfl⟩
      · have H : Hid (KAt L n wr (.int .i64 ((k + 1 : Nat) : Int)) wr) := by
          refine ⟨k + 1, by omega, rfl, ?_, rfl⟩
          rw [HX.out, HD.out, List.contains_cons]
          have : (n == x) = false := by simpa using fun h => he h.symm
          rw [this, Bool.false_or]
        have hb' : (x == n) = false := by simpa using he
        clear HX HD
        go_wp2
        refine ⟨?_, ?_⟩
        · first | exact H.out | ((repeat apply Exists.intro); refine ⟨?_, rfl⟩; exact H.out)
        · simp [intOf]
          try omega
    · have hd : L.drop k = [] := List.drop_eq_nil_of_le (by omega)
      have H : Hid (r = false) := by
        show _ = _
        rw [← HR.out, HX.out, hd]; rfl
      clear HX hd
      go_wp2
      go_ret
      exact ⟨ret_bool H.out.symm, rfl⟩
theorem kin_any {v : Value} {L : List Int} {w : World} (h : IsI w v L) (hm : L.length ≤ 120) (n : Int) : Calls Try.prog 7 #[v, .int .i64 n] w fun e w' => e = .returned (.bool (L.contains n)) ∧ w' = w := by
  rcases h with ⟨rfl, rfl⟩ | ⟨b, cap, rfl, _, _, hl⟩
  · exact kin_nil n w
  · exact kin_some L b cap n w hm hl
end Go.Proofs.Ytddkdppeeadakaa
