/-
  The walk of the law PathRows.
-/
import Derived.Test.YtifcpjimhhpcpaaM32
namespace Go.Proofs.Ytifcpjimhhpcpaa
open Go.RowKit
set_option linter.unusedVariables false
set_option linter.unusedSimpArgs false

theorem pathL_len (back : Bool) (j : Nat) : (pathL back j).length = j + 1 := by simp [pathL]
theorem pathL_succ (back : Bool) (j : Nat) : pathL back (j + 1) = pathL back j ++ [spB back] := by
  unfold pathL; rw [List.replicate_succ']; rfl
theorem pathL_ts (back : Bool) (j : Nat) : ∀ p ∈ pathL back j, p.vt = .slice none 0 0 ∧ p.ts = [] := fun p hp => by
  unfold pathL at hp
  rcases List.mem_cons.1 hp with rfl | hp
  · exact ⟨rfl, rfl⟩
  · obtain ⟨_, rfl⟩ := List.mem_replicate.1 hp
    exact ⟨rfl, rfl⟩
/-- Where the law's loop stands. -/
def PwR (back : Bool) (k : Nat) (w : World) (v i : Value) (wr : World) : Prop := ∃ j : Nat, j ≤ k ∧ i = .int .i64 ((j : Int) + 1) ∧ wr.ownsRow w.heap.size 24 4 v (pathL back j).length (cellsSp (pathL back j)) ∧ Below w.heap.size w wr

set_option maxHeartbeats 8000000 in
set_option maxRecDepth 100000 in
theorem prows_in (m k : Nat) (hm : m ≤ 39) (hk : k ≤ 5) (back : Bool) (w : World) :
    Calls Try.prog 3 #[.int .i64 ((m : Int) + 1), .int .i64 ((k : Int) + 1), .bool back] w fun e w' => e = .returned (.bool true) ∧ Below w.heap.size w w' := by
  obtain ⟨i0, hi0, hz0, hz1, hz2⟩ := info_parts infoSp
  have h1 : ¬ ((m : Int) + 1 < 1) := by omega
  have h2 : ¬ (40 < (m : Int) + 1) := by omega
  have h3 : ¬ ((k : Int) + 1 < 1) := by omega
  have h4 : ¬ (6 < (k : Int) + 1) := by omega
  have HO0 : Hid ((w.alloc (.cells #[.string ⟨#[]⟩, .bool false, .string ⟨#[97]⟩, .slice none 0 0] 24)).ownsRow w.heap.size 24 4 (.slice (some ⟨w.heap.size, 0, none⟩) 1 1) (pathL back 0).length (cellsSp (pathL back 0))) :=
    World.ownsRow_lit (e := 24) (size := 4) (base := w.heap.size) w #[.string ⟨#[]⟩, .bool false, .string ⟨#[97]⟩, .slice none 0 0] 1 (Nat.le_refl _) (by unfold maxLen; omega) rfl
  have HM : Hid (∀ W, Calls Try.prog 6 #[.int .i64 ((m : Int) + 1), .int .i64 (m : Int)] W (ManyP W (m + 1) m)) := fun W => by
    have := many_any (m + 1) m (by omega) (by omega) W
    rwa [show ((m + 1 : Nat) : Int) = (m : Int) + 1 by omega] at this
  have HWk : Hid (∀ (W0 W1 W2 : World) (vs v : Value) (an am : Option Addr) (cn cm : Nat) (vo vf : Value), IsSp W0 v (pathL back k) → Below W0.heap.size W0 W1 → IsSc W1 vs [kdA vo vf] [bdP (-1)] → Below W1.heap.size W1 W2 → RowN W1.heap.size W2 (.slice an (m + 1) cn) (m + 1) → IsT W2 (.slice am m cm) (rowT m) →
      Calls Try.prog 4 #[vs, .agg #[.slice an (m + 1) cn, .slice am m cm], v] W2 fun e w' => ∃ a c q, e = .returned (.tuple #[.slice a q c, .nilIface]) ∧ q = m + 1 - k ∧ Below W2.heap.size W2 w') := fun W0 W1 W2 vs v an am cn cm vo vf hS hB1 hs hB2 hN hT => by
    obtain ⟨N, base, _, hl, h2, h3, _⟩ := hN
    have hP : RowP N (fun j => (j : Int) + 1) := h3
    obtain ⟨hE, Q, hQ, hQl⟩ := walkE_a (vo := vo) (vf := vf) hP hl hm back hk
    refine (walk_any (hs.on hB2) (vg := .agg #[.slice an (m + 1) cn, .slice am m cm]) ⟨_, _, rfl, h2, hT, rowP_szN hP, row_szT m, by rw [hl]; unfold maxLen; omega, by rw [rowT_len]; unfold maxLen; omega⟩ (hS.on (on1K hB1 hB2 (Nat.le_refl _))) (fun p hp => ?_)).mono ?_
    · obtain ⟨_, e⟩ := pathL_ts back k p hp
      exact ⟨by rw [e]; exact Nat.zero_le _, fun x hx => by rw [e] at hx; cases hx⟩
    · rintro e w' ⟨v9, rfl, hr, hB⟩
      obtain ⟨R, hR1, hR2, _, _⟩ := hr hE
      obtain rfl : R = Q := Option.some.inj (hR1.symm.trans hQ)
      obtain ⟨a, c, rfl⟩ := hR2.sl
      exact ⟨a, c, R.length, by rw [hE, errV_0], hQl, hB⟩
  go_enter Try.func3, Try.ntmps3
  go_wp2
  go_loopw [7, 8] (fun v i wr => PwR back k w v i wr) (fun _ i _ => k + 1 - (intOf i).toNat)
  case atStart => exact ⟨0, Nat.zero_le _, rfl, HO0.out, b_alloc (Below.refl _ _) _⟩
  case round =>
    obtain ⟨j, hj, rfl, ho, hB⟩ := hrel
    by_cases hlt : j < k
    · have hlti : (j : Int) < (k : Int) := by omega
      have HO : Hid ((wr.alloc (.cells #[.string ⟨#[112]⟩, .bool back, .string ⟨#[97]⟩, .slice none 0 0] 24)).ownsRow w.heap.size 24 4 u7 (pathL back j).length (cellsSp (pathL back j)) ∧ Below w.heap.size w (wr.alloc (.cells #[.string ⟨#[112]⟩, .bool back, .string ⟨#[97]⟩, .slice none 0 0] 24))) := ⟨ho.alloc _, b_alloc hB _⟩
      have HL : Hid ((pathL back j).length + 1 ≤ maxLen ∧ ((pathL back j).length + 1) * 64 ≤ 140737488355328) := by
        rw [pathL_len]; unfold maxLen; exact ⟨by omega, by omega⟩
      clear ho hB
      go_wp2_with (at_builtin; refine wpList_append_own _ rfl (.tmp 33) (.tmp 36) 25 rfl w.heap.size 24 i0 _ 4 64 Try.underlying25 hi0 hz0 hz1 hz2 rfl (by decide) u7 (pathL back j).length (cellsSp (pathL back j)) rfl HO.out.1 ⟨wr.heap.size, 0, none⟩ 1 1 (spB back).cells rfl rfl (new_at wr (spB back).cells 24) (by simp [Value.oneCell', Sp.cells, spB]) HL.out.1 HL.out.2 HO.out.2.size ?_; intro v1 w1 hown1 hgrow1 _; refine Hid.out ?_)
      refine Lib.hid ?_
      have HRR : Hid (PwR back k w v1 (.int .i64 ((j : Int) + 1 + 1)) w1) := by
        refine ⟨j + 1, by omega, congrArg (Value.int .i64) (by omega), ?_, HO.out.2.grown hgrow1 HO.out.2.size (fun k hk => (HO.out.1.lt k hk).1)⟩
        rw [pathL_succ, cellsSp_snoc, List.length_append]
        exact hown1
      clear hown1 hgrow1
      go_wp2
      refine ⟨?_, ?_⟩
      · first | exact HRR.out | ((repeat apply Exists.intro); refine ⟨?_, rfl⟩; exact HRR.out)
      · simp [intOf]
        try omega
    · obtain rfl : j = k := by omega
      have HS : Hid (IsSp wr u7 (pathL back j) ∧ Below w.heap.size w wr) := ⟨own_isSp ho (fun p hp => by obtain ⟨e1, e2⟩ := pathL_ts back j p hp; rw [e1, e2]; exact isTs_nil _), hB⟩
      have cS := simple_sc (-1) wr
      have hjj : ¬ ((j : Int) < (j : Int)) := by omega
      clear ho hB
      go_wp2_with (first
        | (go_at_call 5; refine cS.mono ?_; rintro e W1 ⟨vs, vo, vf, rfl, hs1, hB1⟩; have cM := HM.out W1; unfold ManyP at cM; have H1 := Lib.hid (And.intro hs1 hB1); clear hs1 hB1)
        | (go_at_call 6; refine cM.mono ?_; rintro e W2 ⟨an, cn, am, cm, rfl, hN2, hT2, hB2⟩; have cW := HWk.out wr W1 W2 _ _ an am cn cm vo vf HS.out.1 H1.out.2 H1.out.1 hB2 hN2 hT2; have H2 := Lib.hid (on1K HS.out.2 (on1K H1.out.2 hB2 (Nat.le_refl _)) (Nat.le_refl _)); clear hN2 hT2 hB2)
        | (go_at_call 4; refine cW.mono ?_; rintro e W3 ⟨a9, c9, q, rfl, hq, hB3⟩; have HQ := Lib.hid (And.intro hq hB3); clear hq hB3; refine Hid.out ?_))
      refine Lib.hid ?_
      have HE : Hid (Below w.heap.size w W3) := on1K H2.out HQ.out.2 (Nat.le_refl _)
      by_cases hjm : j ≤ m + 1
      · have hq : ((q : Int) == (m : Int) + 1 - ((j : Int) + 1) + 1) = true := by
          have := HQ.out.1
          simp; omega
        have hn : ¬ ((m : Int) + 1 - ((j : Int) + 1) + 1 < 0) := by omega
        go_wp2
        go_ret
        exact ⟨ret_bool (by simp), HE.out⟩
      · have hq : q = 0 := by have := HQ.out.1; omega
        have hn : (m : Int) + 1 - ((j : Int) + 1) + 1 < 0 := by omega
        subst hq
        go_wp2
        go_ret
        exact ⟨rfl, HE.out⟩

set_option maxHeartbeats 2000000 in
theorem prows_any (n s : Int) (back : Bool) (w : World) :
    Calls Try.prog 3 #[.int .i64 n, .int .i64 s, .bool back] w fun e w' => e = .returned (.bool true) ∧ Below w.heap.size w w' := by
  by_cases h1 : n < 1
  · go_enter Try.func3, Try.ntmps3
    go_wp2
    go_ret
    exact ⟨rfl, Below.refl _ _⟩
  by_cases h2 : 40 < n
  · go_enter Try.func3, Try.ntmps3
    go_wp2
    go_ret
    exact ⟨rfl, Below.refl _ _⟩
  by_cases h3 : s < 1
  · go_enter Try.func3, Try.ntmps3
    go_wp2
    go_ret
    exact ⟨rfl, Below.refl _ _⟩
  by_cases h4 : 6 < s
  · go_enter Try.func3, Try.ntmps3
    go_wp2
    go_ret
    exact ⟨rfl, Below.refl _ _⟩
  obtain ⟨m, rfl⟩ : ∃ m : Nat, n = (m : Int) + 1 := ⟨(n - 1).toNat, by omega⟩
  obtain ⟨k, rfl⟩ : ∃ k : Nat, s = (k : Int) + 1 := ⟨(s - 1).toNat, by omega⟩
  exact prows_in m k (by omega) (by omega) back w
end Go.Proofs.Ytifcpjimhhpcpaa
