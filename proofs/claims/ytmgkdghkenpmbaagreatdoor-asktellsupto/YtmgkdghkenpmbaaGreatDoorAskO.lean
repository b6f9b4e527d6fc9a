/-
  The walks of Plain: a bond, a step, a path.
-/
import Derived.Test.YtmgkdghkenpmbaaGreatDoorAskN
namespace Go.Proofs.YtmgkdghkenpmbaaGreatDoor
open Go.RowKit
set_option linter.unusedVariables false
set_option linter.unusedSimpArgs false

abbrev spOne (p : St) (a : Option Addr) (n c : Nat) : Value := .agg #[.string (bs p.bd), .bool p.back, .string (bs p.kd), .slice a n c]
abbrev boxP (p : St) (a : Option Addr) (n c : Nat) : Obj := .cells #[.string (bs p.bd), .bool p.back, .string (bs p.kd), .slice a n c] 29

set_option maxHeartbeats 2000000 in
set_option maxRecDepth 100000 in
theorem plainBond_any (f : Bool) (p : St) (a : Option Addr) (n c : Nat) (w : World) (hp : p.bd.length ≤ maxLen) :
    Calls Tryz.prog 34 #[spOne p a n c, .bool f] w fun e w' => e = .returned (errV (bdP f p)) ∧ Below w.heap.size w w' := by
  obtain ⟨bd, back, kd, ts⟩ := p
  have c1 := fun W => nameB bd hp W
  cases f with
  | false =>
    have he : bdP false ⟨bd, back, kd, ts⟩ = nErr bd := by unfold bdP; rw [if_neg (by simp)]
    rw [he]
    generalize nErr bd = z at c1 ⊢
    clear he
    go_enter Tryz.func34, Tryz.ntmps34
    go_wp2_with (go_at_call 33; refine (c1 _).mono ?_; rintro e w' ⟨rfl, rfl⟩)
    go_ret
    exact ⟨rfl, b_alloc (Below.refl _ _) _⟩
  | true =>
    clear c1
    cases bd with
    | nil =>
      cases back with
      | false =>
        rw [show bdP true ⟨[], false, kd, ts⟩ = 0 from rfl, errV_0]
        show Calls Tryz.prog 34 #[.agg #[.string ⟨#[]⟩, .bool false, .string (bs kd), .slice a n c], .bool true] w _
        go_enter Tryz.func34, Tryz.ntmps34
        go_wp2
        go_ret
        exact ⟨rfl, b_alloc (Below.refl _ _) _⟩
      | true =>
        rw [show bdP true ⟨[], true, kd, ts⟩ = 3 by simp [bdP], errV_ne (by decide)]
        show Calls Tryz.prog 34 #[.agg #[.string ⟨#[]⟩, .bool true, .string (bs kd), .slice a n c], .bool true] w _
        go_enter Tryz.func34, Tryz.ntmps34
        go_wp2
        go_ret
        exact ⟨rfl, b_alloc (Below.refl _ _) _⟩
    | cons x y =>
      rw [show bdP true ⟨x :: y, back, kd, ts⟩ = 3 by simp [bdP], errV_ne (by decide)]
      have h1 : ¬ (bs (x :: y)).toList = [] := by rw [bs_toList]; simp
      have h2 : (bs (x :: y)).toList.isEmpty = false := by rw [bs_toList]; rfl
      generalize bs (x :: y) = q at h1 h2 ⊢
      go_enter Tryz.func34, Tryz.ntmps34
      go_wp2
      go_ret
      exact ⟨rfl, b_alloc (Below.refl _ _) _⟩

theorem tsP_drop {L : List Tst} {k : Nat} {x : Tst} (hx : L[k]? = some x) : L.drop k = x :: L.drop (k + 1) := by
  obtain ⟨h1, h2⟩ := List.getElem?_eq_some_iff.1 hx
  rw [← h2]; exact List.drop_eq_getElem_cons h1
theorem stP_ok {f : Bool} {p : St} (h1 : nErr p.kd = 0) (h2 : bdP f p = 0) (h3 : ¬ 8 < p.ts.length) : stP f p = tsP p.ts := by unfold stP; rw [if_pos h1, if_pos h2, if_neg h3]

set_option maxHeartbeats 4000000 in
set_option maxRecDepth 100000 in
theorem plainStep_any (f : Bool) (p : St) (a : Option Addr) (c : Nat) (w : World) (hT : IsTs w (.slice a p.ts.length c) p.ts) (hp : SpSz p) :
    Calls Tryz.prog 20 #[spOne p a p.ts.length c, .bool f] w fun e w' => e = .returned (errV (stP f p)) ∧ Below w.heap.size w w' := by
  have c1 := fun W => nameB p.kd hp.2.1 W
  have c2 := fun W => plainBond_any f p a p.ts.length c W hp.1
  have hm := hp.2.2.1
  unfold maxLen at hm
  have HB0 : Hid (Below w.heap.size w (w.alloc (boxP p a p.ts.length c))) := (Below.refl _ w).alloc (Nat.le_refl _) _
  have HS : Hid (∀ W, Below (w.alloc (boxP p a p.ts.length c)).heap.size (w.alloc (boxP p a p.ts.length c)) W → Below w.heap.size w W ∧ W.cell? ⟨w.heap.size, 3, none⟩ = some (.slice a p.ts.length c)) := fun W hW => by
    have hp := (hW.block w.heap.size (by simp)).trans (new_block w _ 29)
    exact ⟨on1 HB0.out hW, cell_at hp rfl⟩
  by_cases h1 : nErr p.kd = 0
  · rw [h1, errV_0] at c1
    by_cases h2 : bdP f p = 0
    · rw [h2, errV_0] at c2
      by_cases h3 : 8 < p.ts.length
      · have he : stP f p = 4 := by unfold stP; rw [if_pos h1, if_pos h2, if_pos h3]
        rw [he, errV_4]
        clear h1 h2 he hT hp
        go_enter Tryz.func20, Tryz.ntmps20
        go_wp2_with (first | (go_at_call 33; refine (c1 _).mono ?_; rintro e w' ⟨rfl, rfl⟩) | (go_at_call 34; refine (c2 _).mono ?_; rintro e W1 ⟨rfl, hB1⟩; obtain ⟨hb1, p3⟩ := HS.out W1 hB1; have HB1 := Lib.hid hb1; clear hB1 hb1))
        go_ret
        exact ⟨rfl, HB1.out⟩
      · rw [stP_ok h1 h2 h3]
        have HT := Lib.hid hT
        have HPS := Lib.hid hp.2.2.2
        clear h1 h2 hT hp
        go_enter Tryz.func20, Tryz.ntmps20
        go_wp2_with (first | (go_at_call 33; refine (c1 _).mono ?_; rintro e w' ⟨rfl, rfl⟩) | (go_at_call 34; refine (c2 _).mono ?_; rintro e W1 ⟨rfl, hB1⟩; obtain ⟨hb1, p3⟩ := HS.out W1 hB1; have HB1 := Lib.hid hb1; clear hB1 hb1))
        clear p3 c1 c2
        go_loopw [31] (fun i wr => ∃ k : Nat, k ≤ p.ts.length ∧ i = .int .i64 (k : Int) ∧ tsP p.ts = tsP (p.ts.drop k) ∧ Below w.heap.size w wr) (fun i wr => p.ts.length - (intOf i).toNat)
        case atStart => exact ⟨0, Nat.zero_le _, rfl, rfl, HB1.out⟩
        case round =>
          obtain ⟨k, hk, rfl, he, hB⟩ := hrel
          have HE := Lib.hid he
          have HB := Lib.hid hB
          clear he HB1
          by_cases hlt : k < p.ts.length
          · obtain ⟨x, hx⟩ : ∃ x, p.ts[k]? = some x := ⟨_, List.getElem?_eq_getElem hlt⟩
            have hxs := HPS.out x (List.mem_of_getElem? hx)
            have cP := fun W => passesN_any x W hxs
            have hd := tsP_drop hx
            obtain ⟨ao, c', ee, h0 | ⟨b, off, rfl, hbl, hL⟩⟩ := HT.out.on hB
            · rw [h0] at hlt; simp at hlt
            injection ee with e1 e2 e3
            subst e1
            obtain ⟨l0, l1, l2, l3, l4⟩ := hL k x hx
            clear hL hB e2 e3 hbl
            by_cases hz : tstP x = 0
            · rw [hz, errV_0] at cP
              have HE2 : Hid (tsP p.ts = tsP (p.ts.drop (k + 1))) := by show _ = _; rw [HE.out, hd, tsP, if_pos hz]
              clear hz hd hx hxs
              go_wp2_with (go_at_call 35; refine (cP _).mono ?_; rintro e W2 ⟨rfl, hB2⟩)
              go_roundw
              case rel => exact ⟨k + 1, by omega, by go_num, HE2.out, on2 HB.out hB2⟩
              case measure => simp [intOf]; omega
            · rw [errV_ne hz] at cP
              have HE2 : Hid (tsP p.ts = tstP x) := by show _ = _; rw [HE.out, hd, tsP, if_neg hz]
              have HZ := Lib.hid hz
              clear hz hd hx hxs
              go_wp2_with (go_at_call 35; refine (cP _).mono ?_; rintro e W2 ⟨rfl, hB2⟩)
              go_ret
              exact ⟨ret_v (by rw [HE2.out, errV_ne HZ.out]; rfl), on2 HB.out hB2⟩
          · have HE2 : Hid (tsP p.ts = 0) := by show _ = _; rw [HE.out, List.drop_eq_nil_of_le (by omega)]; rfl
            clear hB
            go_wp2
            go_ret
            exact ⟨ret_v (by rw [HE2.out, errV_0]; rfl), HB.out⟩
    · have he : stP f p = bdP f p := by unfold stP; rw [if_pos h1, if_neg h2]
      rw [he, errV_ne h2]
      rw [errV_ne h2] at c2
      generalize bdP f p = z at c2 ⊢
      clear h1 h2 he hT hp
      go_enter Tryz.func20, Tryz.ntmps20
      go_wp2_with (first | (go_at_call 33; refine (c1 _).mono ?_; rintro e w' ⟨rfl, rfl⟩) | (go_at_call 34; refine (c2 _).mono ?_; rintro e W1 ⟨rfl, hB1⟩))
      go_ret
      exact ⟨rfl, on1 HB0.out hB1⟩
  · have he : stP f p = nErr p.kd := by unfold stP; rw [if_neg h1]
    rw [he, errV_ne h1]
    rw [errV_ne h1] at c1
    generalize nErr p.kd = z at c1 ⊢
    clear h1 he hT hp c2
    go_enter Tryz.func20, Tryz.ntmps20
    go_wp2_with (first | (go_at_call 33; refine (c1 _).mono ?_; rintro e w' ⟨rfl, rfl⟩))
    go_ret
    exact ⟨rfl, HB0.out⟩

theorem stsP_drop {L : List Sp} {k : Nat} {x : Sp} (hx : L[k]? = some x) (f : Bool) : stsP f ((L.map Sp.st).drop k) = if stP f x.st = 0 then stsP false ((L.map Sp.st).drop (k + 1)) else stP f x.st := by
  obtain ⟨h1, h2⟩ := List.getElem?_eq_some_iff.1 hx
  rw [← h2, List.drop_eq_getElem_cons (by simpa using h1), List.getElem_map, stsP]

set_option maxHeartbeats 4000000 in
set_option maxRecDepth 100000 in
theorem plain_any {v : Value} {M : List Sp} {w : World} (h : IsSp w v M) (hz : ∀ p ∈ M, SpSz p.st) (hM : M.length ≤ maxLen) :
    Calls Tryz.prog 10 #[v] w fun e w' => e = .returned (errV (askE (M.map Sp.st))) ∧ Below w.heap.size w w' := by
  have HI := Lib.hid h
  obtain ⟨av, cv, rfl, hcells⟩ := h
  unfold maxLen at hM
  by_cases h0 : M = []
  · subst h0
    clear hcells HI
    rw [show askE (([] : List Sp).map Sp.st) = 5 from rfl, errV_ne (by decide)]
    go_enter Tryz.func10, Tryz.ntmps10
    go_wp2
    go_ret
    exact ⟨rfl, Below.refl _ _⟩
  have hn0 : ¬ ((M.length : Int)) = 0 := fun e => h0 (List.eq_nil_of_length_eq_zero (by omega))
  have hn1 : ((M.length : Int) == 0) = false := by rw [beq_eq_false_iff_ne]; exact hn0
  have hne : ¬ M.map Sp.st = [] := by simpa using h0
  by_cases h6 : 6 < M.length
  · have he : askE (M.map Sp.st) = 4 := by unfold askE; rw [if_neg hne, if_pos (by simpa using h6)]
    rw [he, errV_4]
    clear he hcells HI
    go_enter Tryz.func10, Tryz.ntmps10
    go_wp2
    go_ret
    exact ⟨rfl, Below.refl _ _⟩
  · have he : askE (M.map Sp.st) = stsP true (M.map Sp.st) := by unfold askE; rw [if_neg hne, if_neg (by simpa using h6)]
    rw [he]
    obtain ⟨b, off, rfl, hbl, hL⟩ := hcells.resolve_left h0
    have HL := Lib.hid hL
    have HZ := Lib.hid hz
    clear he hL HI hne hn0 h0 hz hcells
    go_enter Tryz.func10, Tryz.ntmps10
    go_wp2
    go_loopw [16] (fun i wr => ∃ k : Nat, k ≤ M.length ∧ i = .int .i64 (k : Int) ∧ stsP true (M.map Sp.st) = stsP (decide (k = 0)) ((M.map Sp.st).drop k) ∧ Below w.heap.size w wr) (fun i wr => M.length - (intOf i).toNat)
    case atStart => exact ⟨0, Nat.zero_le _, rfl, rfl, Below.refl _ _⟩
    case round =>
      obtain ⟨k, hk, rfl, he, hB⟩ := hrel
      have HE := Lib.hid he
      have HB := Lib.hid hB
      clear he
      by_cases hlt : k < M.length
      · obtain ⟨x, hx⟩ : ∃ x, M[k]? = some x := ⟨_, List.getElem?_eq_getElem hlt⟩
        have hxs := HZ.out x (List.mem_of_getElem? hx)
        have hd := stsP_drop hx (decide (k = 0))
        obtain ⟨⟨l0, l1, l2, l3⟩, hT⟩ := (HL.out.on hbl hB) k x hx
        obtain ⟨ta, tc, et⟩ := hT.sl
        obtain ⟨xs, xv⟩ := x
        simp only at et l0 l1 l2 l3 hT hxs hd
        subst et
        have HT := Lib.hid (hT.on ((Below.refl _ wr).alloc (Nat.le_refl _) (boxP xs ta xs.ts.length tc)))
        have hf : ((k : Int) == 0) = decide (k = 0) := by rw [Bool.eq_iff_iff]; simp
        have cP := plainStep_any (decide (k = 0)) xs ta tc _ HT.out hxs
        generalize decide (k = 0) = f at hf cP hd HE
        clear hT hB
        by_cases hz0 : stP f xs = 0
        · rw [hz0, errV_0] at cP
          have HE2 : Hid (stsP true (M.map Sp.st) = stsP (decide (k + 1 = 0)) ((M.map Sp.st).drop (k + 1))) := by
            show _ = _
            rw [HE.out, hd, if_pos hz0]; rfl
          clear hz0 hd hx hxs
          go_wp2_with (go_at_call 20; refine cP.mono ?_; rintro e W2 ⟨rfl, hB2⟩)
          go_roundw
          case rel => exact ⟨k + 1, by omega, by go_num, HE2.out, on2 HB.out hB2⟩
          case measure => simp [intOf]; omega
        · rw [errV_ne hz0] at cP
          have HE2 : Hid (stsP true (M.map Sp.st) = stP f xs) := by show _ = _; rw [HE.out, hd, if_neg hz0]
          have HZ0 := Lib.hid hz0
          clear hz0 hd hx hxs
          go_wp2_with (go_at_call 20; refine cP.mono ?_; rintro e W2 ⟨rfl, hB2⟩)
          go_ret
          exact ⟨ret_v (by rw [HE2.out, errV_ne HZ0.out]; rfl), on2 HB.out hB2⟩
      · have HE2 : Hid (stsP true (M.map Sp.st) = 0) := by show _ = _; rw [HE.out, List.drop_eq_nil_of_le (by simp; omega)]; rfl
        clear hB
        go_wp2
        go_ret
        exact ⟨ret_v (by rw [HE2.out, errV_0]; rfl), HB.out⟩
end Go.Proofs.YtmgkdghkenpmbaaGreatDoor
