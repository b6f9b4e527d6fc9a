/-
  The walk of the law RecordMany.
-/
import Derived.Test.YtghlncdnnmpikabDoorManyM
import Derived.Deep.RegionWith
namespace Go.Proofs.YtghlncdnnmpikabDoor
open Go.RowKit
set_option linter.unusedVariables false
set_option linter.unusedSimpArgs false

theorem hndOn {w w' : World} (hg : Hnd w) (hb : Below w.heap.size w w') : Hnd w' := by
  have hlt : 0 < w.heap.size := by
    rcases Nat.eq_zero_or_pos w.heap.size with h0 | h
    · have hg' : w.cell? ⟨0, 0, none⟩ = _ := hg
      simp [World.cell?, h0] at hg'
    · exact h
  exact (hb.cell (p := ⟨0, 0, none⟩) hlt).trans hg
theorem sz_pr (n j : Nat) : Sz [prOf n j] := by
  intro p hp
  simp at hp; subst hp
  exact ⟨by show (2 : Nat) ≤ maxLen; decide, by show (0 : Nat) ≤ maxLen; decide⟩

/-- The property that is set anew. -/
def agOf (n j : Nat) : Pr := ⟨nmOf (n - j), 1, 99, ⟨#[]⟩⟩
theorem ag_bad (n j : Nat) : (agOf n j).bad = 0 := bad_ok (nmOf (n - j)) 99 (by decide)
theorem ag_sz (n j : Nat) : Sz [agOf n j] := by
  intro p hp
  simp at hp; subst hp
  exact ⟨by show (2 : Nat) ≤ maxLen; decide, by show (0 : Nat) ≤ maxLen; decide⟩
theorem ins_mem (p : Pr) (L : List Pr) : ∀ q ∈ ins p L, q = p ∨ q ∈ L := by
  induction L with
  | nil => intro q hq; simp [ins] at hq; exact .inl hq
  | cons a r ih =>
    intro q hq
    unfold ins at hq
    split at hq
    · rcases List.mem_cons.1 hq with rfl | h
      · exact .inr (by simp)
      · rcases ih q h with h | h
        · exact .inl h
        · exact .inr (by simp [h])
    · split at hq
      · rcases List.mem_cons.1 hq with rfl | h
        · exact .inl rfl
        · exact .inr (by simp [h])
      · rcases List.mem_cons.1 hq with rfl | h
        · exact .inl rfl
        · exact .inr h
theorem ins_sz {p : Pr} {L : List Pr} (h : Sz L) (hp : Sz [p]) : Sz (ins p L) := fun q hq => by
  rcases ins_mem p L q hq with rfl | h'
  · exact hp q (by simp)
  · exact h q h'
theorem ag_all (N : Nat) (hN : N < 13) (m : Nat) (hm : m ≤ N) (h8 : m ≤ 8) (j : Nat) (hj : j < m) :
    sErr (agOf N j) (recOf N m) = 0 ∧ (ins (agOf N j) (recOf N m)).length = m ∧ fErr (nmOf (N - j)).toList (ins (agOf N j) (recOf N m)) = 0 ∧ getV (nmOf (N - j)).toList (ins (agOf N j) (recOf N m)) = .agg #[.int .i64 1, .int .i64 99, .string ⟨#[]⟩] := by
  obtain ⟨h1, _, h3, h4⟩ := again_rec N hN (agOf N j) j rfl (ag_bad N j) m hj hm
  obtain ⟨i, h5, h6⟩ := h4 0
  have hr : rErr (ins (agOf N j) (recOf N m)) = 0 := by unfold rErr; rw [if_neg (by omega)]; exact h3
  have h5' : idx (nmOf (N - j)).toList (ins (agOf N j) (recOf N m)) 0 = (i : Int) := by
    have : (agOf N j).nm.toList = (nmOf (N - j)).toList := rfl
    rw [this] at h5; simpa using h5
  have hf : fErr (nmOf (N - j)).toList (ins (agOf N j) (recOf N m)) = 0 := by
    unfold fErr; rw [if_pos hr, if_neg (by rw [h5']; omega)]
  refine ⟨?_, h1, hf, ?_⟩
  · unfold sErr
    rw [if_pos (rErr_rec N hN m hm h8), if_pos (rErr_one (agOf N j) (N - j) rfl (by omega) (ag_bad N j)), if_neg (by omega)]
  · unfold getV
    rw [if_pos hf, h5']; simp [h6]; exact ⟨rfl, rfl, rfl⟩

theorem set_ok {v : Value} {L : List Pr} {w : World} (h : IsRec w v L) (hs : Sz L) (hm : L.length ≤ maxLen) (p : Pr) (hsp : Sz [p]) (he : sErr p L = 0) {n : Nat} (hn : (ins p L).length = n) :
    Calls Tryd.prog 4 #[v, p.one] w fun e w' => ∃ ao cp, e = .returned (.tuple #[.slice ao n cp, .nilIface]) ∧ IsRec w' (.slice ao n cp) (ins p L) ∧ Below w.heap.size w w' := by
  refine (set_any h hs hm p hsp).mono ?_
  rintro e w' ⟨v1, rfl, h1, h2, hB⟩
  have h3 := h1 he
  rw [he]
  subst hn
  obtain ⟨ao, cp, rfl⟩ := own_slice h3
  exact ⟨ao, cp, rfl, own_isRec h3, hB⟩

set_option maxHeartbeats 8000000 in
set_option maxRecDepth 100000 in
theorem many_in (N : Nat) (hN : N < 13) (a : Int) (w : World) (hg : Hnd w) :
    Calls Tryd.prog 3 #[.int .i64 N, .int .i64 a] w fun e w' => e = .returned (.bool true) ∧ Below w.heap.size w w' := by
  go_enter Tryd.func3, Tryd.ntmps3
  go_wp2
  go_loopw [5, 6] (fun r i wr => ∃ k : Nat, k ≤ N ∧ i = .int .i64 k ∧ IsRec wr r (recOf N (min k 8)) ∧ Below w.heap.size w wr) (fun _ i _ => N - (intOf i).toNat)
  case atStart => exact ⟨0, Nat.zero_le _, rfl, .inl ⟨rfl, rfl⟩, Below.refl _ _⟩
  case round =>
    obtain ⟨k, hk, rfl, hr, hB⟩ := hrel
    have HG : Hid (Hnd w) := hg
    have HR : Hid (IsRec wr u5 (recOf N (min k 8))) := hr
    clear hr hg
    by_cases hlt : k < N
    · have hsub : (N : Int) - (k : Int) = ((N - k : Nat) : Int) := by omega
      have cl := fun w => letters_any (N - k) (by omega) (by omega) w
      by_cases h8 : k < 8
      · go_wp2_with (go_at_call 5; refine (cl _).mono ?_; rintro e W1 ⟨rfl, hB1⟩; refine Hid.out ?_)
        refine Lib.hid ?_
        go_wp2_with (go_at_call 6; refine (number_any _ _).mono ?_; rintro e W2 ⟨rfl, hB2⟩; refine Hid.out ?_)
        refine Lib.hid ?_
        have hBB := on1 hB1 hB2
        have cs := set_any (HR.out.on hBB) (sz_rec _ _) (by rw [rec_len]; unfold maxLen; omega) (prOf N k) (sz_pr N k)
        clear cl
        go_wp2_with (go_at_call 4; refine cs.mono ?_; rintro e W3 ⟨v1, rfl, h1, h2, hB3⟩; refine Hid.out ?_)
        refine Lib.hid ?_
        rw [sErr_rec N hN (min k 8) k (by omega) hlt (by omega), if_pos (by omega)] at h1 h2 ⊢
        rw [ins_rec N hN (min k 8) k (by omega) hlt] at h1
        have hI : Hid (IsRec W3 v1 (recOf N (min (k + 1) 8))) := by
          have := own_isRec (h1 rfl)
          rw [show prOf N k :: recOf N (min k 8) = recOf N (min (k + 1) 8) by rw [show min k 8 = k by omega, show min (k + 1) 8 = k + 1 by omega]; rfl] at this
          exact this
        have hB' := on1 hB (on1 hBB hB3)
        have ce := error_gen 0 4 W3 (hndOn HG.out hB')
        rw [errV_0] at ce ⊢
        rw [show ((0 : Int) == 4) = false from rfl] at ce
        clear h1 h2 cs
        go_wp2_with (go_at_call 7; refine ce.mono ?_; rintro e W4 ⟨rfl, hB4⟩)
        go_roundw
        case rel => exact ⟨k + 1, by omega, by go_num, hI.out.on hB4, on1 hB' hB4⟩
        case measure => simp [intOf]; omega
      · go_wp2_with (go_at_call 5; refine (cl _).mono ?_; rintro e W1 ⟨rfl, hB1⟩; refine Hid.out ?_)
        refine Lib.hid ?_
        go_wp2_with (go_at_call 6; refine (number_any _ _).mono ?_; rintro e W2 ⟨rfl, hB2⟩; refine Hid.out ?_)
        refine Lib.hid ?_
        have hBB := on1 hB1 hB2
        have cs := set_any (HR.out.on hBB) (sz_rec _ _) (by rw [rec_len]; unfold maxLen; omega) (prOf N k) (sz_pr N k)
        clear cl
        go_wp2_with (go_at_call 4; refine cs.mono ?_; rintro e W3 ⟨v1, rfl, h1, h2, hB3⟩; refine Hid.out ?_)
        refine Lib.hid ?_
        rw [sErr_rec N hN (min k 8) k (by omega) hlt (by omega), if_neg (by omega)] at h1 h2 ⊢
        obtain rfl := h2 (by decide)
        have hB' := on1 hB (on1 hBB hB3)
        have ce := error_gen 4 4 W3 (hndOn HG.out hB')
        rw [errV_4] at ce ⊢
        rw [show ((4 : Int) == 4) = true from rfl] at ce
        clear h1 h2 cs
        go_wp2_with (go_at_call 7; refine ce.mono ?_; rintro e W4 ⟨rfl, hB4⟩)
        go_roundw
        case rel => exact ⟨k + 1, by omega, by go_num, by
          have := (HR.out.on (on1 hBB hB3)).on hB4
          rw [show min (k + 1) 8 = min k 8 by omega]; exact this, on1 hB' hB4⟩
        case measure => simp [intOf]; omega
    · obtain rfl : k = N := by omega
      have hm : min k 8 ≤ k := by omega
      have hm8 : min k 8 ≤ 8 := by omega
      generalize min k 8 = m at HR hm hm8
      rcases HR.out with ⟨rfl, h0⟩ | ⟨b, off, cap, rfl, hc, hb, hl⟩
      · by_cases ha : a < 0
        · go_wp2
          go_ret
          exact ⟨rfl, hB⟩
        · go_wp2
          go_ret
          exact ⟨rfl, hB⟩
      · rw [rec_len] at hc ⊢
        by_cases ha : a < 0
        · go_wp2
          go_ret
          exact ⟨rfl, hB⟩
        · by_cases ha2 : (m : Int) ≤ a
          · go_wp2
            go_ret
            exact ⟨rfl, hB⟩
          · obtain ⟨A, rfl⟩ : ∃ A : Nat, a = (A : Int) := ⟨a.toNat, by omega⟩
            have hA : A < m := by omega
            obtain ⟨c0, _⟩ := hl A _ (rec_at k m A hA)
            obtain ⟨j, hj⟩ : ∃ j, j = m - 1 - A := ⟨_, rfl⟩
            have hjm : j < m := by omega
            rw [← hj] at c0
            have HA : Hid _ := ag_all k hN m hm hm8 j hjm
            have HI : Hid (IsRec wr (.slice (some ⟨b, off, none⟩) m cap) (recOf k m)) := by
              have := HR.out; rw [rec_len] at this; exact this
            have c0' : wr.cell? ⟨b, off + A * 4, none⟩ = some (.string (nmOf (k - j))) := c0
            clear HR hl c0 hj
            go_wp2_with fail
            go_region_with (first
              | (go_at_call 6; refine (number_any _ _).mono ?_; rintro e W1 ⟨rfl, hB1⟩; have hB1' : Below wr.heap.size wr W1 := (Below.refl wr.heap.size wr).drew.trans hB1; have c1 := (hB1'.cell (p := ⟨b, off + A * 4, none⟩) hb).trans c0')
              | (go_at_call 4; refine (set_ok (HI.out.on hB1') (sz_rec _ _) (by rw [rec_len]; unfold maxLen; omega) (agOf k j) (ag_sz k j) HA.out.1 HA.out.2.1).mono ?_; rintro e W2 ⟨ao, cp, rfl, hR2, hB2⟩; have c2 := (hB2.cell (p := ⟨b, off + A * 4, none⟩) (Nat.lt_of_lt_of_le hb hB1'.size)).trans c1))
            all_goals
              have cg := get_any hR2 (ins_sz (sz_rec _ _) (ag_sz k j)) (by rw [HA.out.2.1]; unfold maxLen; omega) (nmOf (k - j))
              rw [HA.out.2.2.1, HA.out.2.2.2, errV_0] at cg
              go_wp2_with (go_at_call 8; refine cg.mono ?_; rintro e W3 ⟨rfl, hB3⟩)
              go_ret
              exact ⟨rfl, b_alloc (on1 hB (on1 (on1 hB1' hB2) hB3)) _⟩
set_option maxHeartbeats 1000000 in
theorem many_out (n a : Int) (h : n < 0 ∨ 12 < n) (w : World) :
    Calls Tryd.prog 3 #[.int .i64 n, .int .i64 a] w fun e w' => e = .returned (.bool true) ∧ Below w.heap.size w w' := by
  rcases h with h | h
  · go_enter Tryd.func3, Tryd.ntmps3
    go_wp2
    go_ret
    exact ⟨rfl, Below.refl _ _⟩
  · have h' : ¬ n < 0 := by omega
    go_enter Tryd.func3, Tryd.ntmps3
    go_wp2
    go_ret
    exact ⟨rfl, Below.refl _ _⟩
theorem many_any (n a : Int) (w : World) (hg : Hnd w) :
    Calls Tryd.prog 3 #[.int .i64 n, .int .i64 a] w fun e w' => e = .returned (.bool true) ∧ Below w.heap.size w w' := by
  by_cases h : n < 0 ∨ 12 < n
  · exact many_out n a h w
  · obtain ⟨N, rfl⟩ : ∃ N : Nat, n = (N : Int) := ⟨n.toNat, by omega⟩
    exact many_in N (by omega) a w hg
end Go.Proofs.YtghlncdnnmpikabDoor
