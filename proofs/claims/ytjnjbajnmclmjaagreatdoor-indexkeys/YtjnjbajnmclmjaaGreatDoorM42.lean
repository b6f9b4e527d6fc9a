/-
  The walk of the law IndexKeys.
-/
import Derived.Test.YtjnjbajnmclmjaaGreatDoorM40
import Derived.Test.YtjnjbajnmclmjaaGreatDoorM41
namespace Go.Proofs.YtjnjbajnmclmjaaGreatDoor
open Go.RowKit
set_option linter.unusedVariables false
set_option linter.unusedSimpArgs false

theorem Hnd.on {w w' : World} (h : Hnd w) (hB : Below w.heap.size w w') : Hnd w' := (hB.cell (p := ⟨0, 0, none⟩) (cell_lt h)).trans h
theorem fnd_row {N : List Nd} (hN : RowP N (fun j => (j : Int) + 1)) (hg : gErr N [] = 0) {i : Int} (h1 : 1 ≤ i) (h2 : i ≤ N.length) : fndN i (cN N) = true := by
  rw [fndN_c]
  obtain ⟨k, rfl⟩ : ∃ k : Nat, i = (k : Int) + 1 := ⟨(i - 1).toNat, by omega⟩
  have hk : k < N.length := by omega
  exact (fnd_iff (gErr_srt hg)).2 ⟨N[k], List.getElem_mem hk, (hN k N[k] (List.getElem?_eq_getElem hk)).1⟩
theorem isSc_slD {w : World} {v : Value} {L : List Kd} {B : List Bd} (h : IsSc w v L B) : ∃ a n c b m d, v = .agg #[.slice a n c, .slice b m d] := by
  obtain ⟨vk, vb, rfl, hK, _, _, hb, _⟩ := h
  obtain ⟨ak, ck, rfl, _⟩ := hK.sln
  obtain ⟨ab, cb, rfl, _⟩ := hb.sln
  exact ⟨_, _, _, _, _, _, rfl⟩
set_option maxHeartbeats 8000000 in
set_option maxRecDepth 100000 in
theorem keys_any (n key : Int) (w : World) (hkey : in64 key) (hg : Hnd w) :
    Calls Tryz.prog 4 #[.int .i64 n, .int .i64 key] w fun e w' => e = .returned (.bool true) ∧ Below w.heap.size w w' := by
  by_cases hn : 1 ≤ n ∧ n ≤ 50
  · obtain ⟨hn1, hn2⟩ := hn
    obtain ⟨m, rfl⟩ : ∃ m : Nat, n = (m : Int) + 1 := ⟨(n - 1).toNat, by omega⟩
    have hm : m + 1 ≤ 50 := by omega
    have cS := simple_sc (-1) w
    have HM : Hid (∀ W, Calls Tryz.prog 17 #[.int .i64 ((m : Int) + 1), .int .i64 (m : Int)] W (ManyP W (m + 1) m)) := fun W => by
      have := many_any (m + 1) m (by omega) (by omega) W
      rwa [show ((m + 1 : Nat) : Int) = (m : Int) + 1 from by omega] at this
    have HW : Hid (∀ (W1 W2 : World) (vs : Value) (an am : Option Addr) (cn cm : Nat) (vo vf : Value), IsSc W1 vs [kdA vo vf] [bdP (-1)] → Below W1.heap.size W1 W2 → RowN W1.heap.size W2 (.slice an (m + 1) cn) (m + 1) → IsT W2 (.slice am m cm) (rowT m) → Calls Tryz.prog 5 #[vs, .agg #[.slice an (m + 1) cn, .slice am m cm]] W2 fun e w' => ∃ b N, e = .returned (.tuple #[.pointer (some ⟨b, 0, none⟩), .nilIface]) ∧ (Ix w' W2.heap.size b [kdA vo vf] [bdP (-1)] (cN N) (rowT m) ∧ RowP N (fun j => (j : Int) + 1) ∧ N.length = m + 1) ∧ Below W2.heap.size W2 w') := fun W1 W2 vs an am cn cm vo vf h1 h2 h3 h4 => by
      obtain ⟨N, base, _, q1, q2, q3, _⟩ := h3
      have hP : RowP N (fun j => (j : Int) + 1) := q3
      refine (new_yes (h1.on h2) (vg := .agg #[.slice an (m + 1) cn, .slice am m cm]) ⟨_, _, rfl, q2, h4, rowP_szN hP, row_szT m, by rw [q1]; unfold maxLen; omega, by rw [rowT_len]; unfold maxLen; omega⟩ (cf_row hP q1 hm)).mono ?_
      rintro e w' ⟨b, rfl, hx, hB⟩
      exact ⟨b, N, rfl, ⟨hx, hP, q1⟩, hB⟩
    have HH : Hid (∀ vo vf, HpOk (hpO [kdA vo vf] [kdA vo vf])) := fun vo vf => hpO_ok (sErr_good.1 (sErr_a vo vf (mx := -1) (.inl rfl))).1 (fun k hk => by
      obtain rfl := List.mem_singleton.1 hk
      refine ⟨by show (1 : Nat) ≤ maxLen; decide, fun f hf => ?_⟩
      obtain rfl := List.mem_singleton.1 hf
      show (1 : Nat) ≤ maxLen
      decide)
    have HK : Hid (∀ (W : World) (base b : Nat) (N : List Nd) (vo vf : Value), Ix W base b [kdA vo vf] [bdP (-1)] (cN N) (rowT m) → RowP N (fun j => (j : Int) + 1) → N.length = m + 1 → Calls Tryz.prog 6 #[.pointer (some ⟨b, 0, none⟩), .string ⟨#[97]⟩, .string ⟨#[107]⟩, .agg #[.int .i64 1, .int .i64 key, .string ⟨#[]⟩]] W fun e w' => e = .returned (.tuple #[.int .i64 (if 1 ≤ key ∧ key ≤ (m : Int) + 1 then (key, (0 : Int)) else ((0 : Int), 5)).1, errV (if 1 ≤ key ∧ key ≤ (m : Int) + 1 then (key, (0 : Int)) else ((0 : Int), 5)).2]) ∧ Below W.heap.size W w') := fun W base b N vo vf h1 h2 h3 => by
      have c := ix_key h1 (HH.out vo vf) (nm := ⟨#[97]⟩) (st := ⟨#[]⟩) (fd := [107]) (t := 1) (n := key) (by decide) (by decide) (by decide) (in64_of (by omega) (by omega)) hkey
      rw [keyA_row h2 key, h3] at c
      exact c
    have HE : Hid (∀ (W : World) (base b : Nat) (N : List Nd) (vo vf : Value), 1 ≤ key → key ≤ (m : Int) + 1 → Ix W base b [kdA vo vf] [bdP (-1)] (cN N) (rowT m) → RowP N (fun j => (j : Int) + 1) → N.length = m + 1 → Calls Tryz.prog 19 #[.pointer (some ⟨b, 0, none⟩), .int .i64 key, .string ⟨#[112]⟩, .bool false] W fun e w' => ∃ a c, e = .returned (.tuple #[.slice a (if 1 ≤ key ∧ key ≤ m then 1 else 0) c, .nilIface]) ∧ Below W.heap.size W w') := fun W base b N vo vf k1 k2 h1 h2 h3 => by
      have hgE : gErr N (rowT m) = 0 := rowP_gErr h2 (fun j hj => by rw [h3] at hj; constructor <;> omega) (by omega) (by omega)
      have hg0 : gErr N [] = 0 := rowP_gErr (m := 0) h2 (fun j hj => by rw [h3] at hj; constructor <;> omega) (by omega) (by omega)
      have c := ix_ends h1 (by rw [gErr_c]; exact hgE) (by simp) (bd := [112]) hkey false (by decide) (fnd_row h2 hg0 k1 (by omega)) (by decide)
      rw [show (bs [112], key, false) = endR key from rfl, end_tab] at c
      exact c
    clear hn1 hn2
    by_cases hk : 1 ≤ key ∧ key ≤ (m : Int) + 1
    · skip
      go_enter Tryz.func4, Tryz.ntmps4
      go_wp2_with (first | (go_at_call 16; refine cS.mono ?_; rintro e W1 ⟨vs, vo, vf, rfl, hs1, hB1⟩; refine Hid.out ?_))
      refine Lib.hid ?_
      have cM := HM.out W1
      unfold ManyP at cM
      obtain ⟨q1, q2, q3, q4, q5, q6, rfl⟩ := isSc_slD hs1
      have H1 := Lib.hid (And.intro hs1 hB1)
      clear hs1 hB1 cS
      go_wp2_with (first | (go_at_call 17; refine cM.mono ?_; rintro e W2 ⟨an, cn, am, cm, rfl, hN2, hT2, hB2⟩; refine Hid.out ?_))
      refine Lib.hid ?_
      have cNw := HW.out W1 W2 _ an am cn cm vo vf H1.out.1 hB2 hN2 hT2
      have H2 : Hid (Below w.heap.size w W2) := on1K H1.out.2 hB2 (Nat.le_refl _)
      clear cM hN2 hT2 hB2
      go_wp2_with (first | (go_at_call 5; refine cNw.mono ?_; rintro e W3 ⟨b, N, rfl, ⟨hx, hP, hl⟩, hB3⟩; refine Hid.out ?_))
      refine Lib.hid ?_
      have cU := number_any key W3
      have hB34 : Below W3.heap.size W3 (W3.alloc (.cells #[.int .i64 1, .int .i64 key, .string ⟨#[]⟩] 38)) := b_alloc (Below.refl _ _) _
      have cK := HK.out _ _ b N vo vf (hx.on hB34) hP hl
      have H3 : Hid (Below w.heap.size w (W3.alloc (.cells #[.int .i64 1, .int .i64 key, .string ⟨#[]⟩] 38)) ∧ Ix (W3.alloc (.cells #[.int .i64 1, .int .i64 key, .string ⟨#[]⟩] 38)) W2.heap.size b [kdA vo vf] [bdP (-1)] (cN N) (rowT m) ∧ RowP N (fun j => (j : Int) + 1) ∧ N.length = m + 1) := ⟨on1K (on1K H2.out hB3 (Nat.le_refl _)) hB34 (Nat.le_refl _), hx.on hB34, hP, hl⟩
      rw [if_pos hk] at cK
      simp only at cK
      rw [errV_0] at cK
      obtain ⟨hk1, hk2⟩ := hk
      have hz1 : ¬ key < 1 := by omega
      have hz2 : ¬ key > (m : Int) + 1 := by omega
      have HKK := Lib.hid (And.intro hk1 hk2)
      clear cNw hx hP hl hB3 hB34 hk1 hk2
      go_wp2_with (first | (go_at_call 18; refine cU.mono ?_; rintro e W4 ⟨rfl, rfl⟩) | (go_at_call 6; refine cK.mono ?_; rintro e W5 ⟨rfl, hB5⟩; refine Hid.out ?_))
      refine Lib.hid ?_
      have cE := HE.out W5 _ b N vo vf HKK.out.1 HKK.out.2 (H3.out.2.1.on hB5) H3.out.2.2.1 H3.out.2.2.2
      have H5 : Hid (Below w.heap.size w W5) := on1K H3.out.1 hB5 (Nat.le_refl _)
      have hq : (key = (m : Int) + 1 ∧ (if 1 ≤ key ∧ key ≤ m then 1 else 0) = 0) ∨ (¬ key = (m : Int) + 1 ∧ (if 1 ≤ key ∧ key ≤ m then 1 else 0) = 1) := by
        have := HKK.out
        by_cases h : key = (m : Int) + 1
        · exact .inl ⟨h, if_neg (by omega)⟩
        · exact .inr ⟨h, if_pos (by omega)⟩
      clear cK cU hB5
      rcases hq with ⟨h1, h2⟩ | ⟨h1, h2⟩
      · rw [h2] at cE
        rw [← h1]
        clear h2 hz2 h1 hkey
        go_wp2_with (first | (go_at_call 19; refine cE.mono ?_; rintro e W6 ⟨a6, c6, rfl, hB6⟩))
        go_ret
        exact ⟨ret_v (by simp), on1K H5.out hB6 (Nat.le_refl _)⟩
      · rw [h2] at cE
        clear h2
        go_wp2_with (first | (go_at_call 19; refine cE.mono ?_; rintro e W6 ⟨a6, c6, rfl, hB6⟩))
        go_ret
        exact ⟨ret_v (by simp), on1K H5.out hB6 (Nat.le_refl _)⟩
    · skip
      go_enter Tryz.func4, Tryz.ntmps4
      go_wp2_with (first | (go_at_call 16; refine cS.mono ?_; rintro e W1 ⟨vs, vo, vf, rfl, hs1, hB1⟩; refine Hid.out ?_))
      refine Lib.hid ?_
      have cM := HM.out W1
      unfold ManyP at cM
      obtain ⟨q1, q2, q3, q4, q5, q6, rfl⟩ := isSc_slD hs1
      have H1 := Lib.hid (And.intro hs1 hB1)
      clear hs1 hB1 cS
      go_wp2_with (first | (go_at_call 17; refine cM.mono ?_; rintro e W2 ⟨an, cn, am, cm, rfl, hN2, hT2, hB2⟩; refine Hid.out ?_))
      refine Lib.hid ?_
      have cNw := HW.out W1 W2 _ an am cn cm vo vf H1.out.1 hB2 hN2 hT2
      have H2 : Hid (Below w.heap.size w W2) := on1K H1.out.2 hB2 (Nat.le_refl _)
      clear cM hN2 hT2 hB2
      go_wp2_with (first | (go_at_call 5; refine cNw.mono ?_; rintro e W3 ⟨b, N, rfl, ⟨hx, hP, hl⟩, hB3⟩; refine Hid.out ?_))
      refine Lib.hid ?_
      have cU := number_any key W3
      have hB34 : Below W3.heap.size W3 (W3.alloc (.cells #[.int .i64 1, .int .i64 key, .string ⟨#[]⟩] 38)) := b_alloc (Below.refl _ _) _
      have cK := HK.out _ _ b N vo vf (hx.on hB34) hP hl
      have H3 : Hid (Below w.heap.size w (W3.alloc (.cells #[.int .i64 1, .int .i64 key, .string ⟨#[]⟩] 38))) := on1K (on1K H2.out hB3 (Nat.le_refl _)) hB34 (Nat.le_refl _)
      rw [if_neg hk] at cK
      simp only at cK
      rw [errV_ne (by decide)] at cK
      have hz : key < 1 ∨ (¬ key < 1 ∧ key > (m : Int) + 1) := by omega
      clear cNw hx hP hl hB3 hB34 hk
      go_wp2_with (first | (go_at_call 18; refine cU.mono ?_; rintro e W4 ⟨rfl, rfl⟩) | (go_at_call 6; refine cK.mono ?_; rintro e W5 ⟨rfl, hB5⟩; refine Hid.out ?_))
      refine Lib.hid ?_
      have H5 : Hid (Below w.heap.size w W5) := on1K H3.out hB5 (Nat.le_refl _)
      have cR := error_any 5 W5 (Hnd.on hg H5.out)
      rw [errV_ne (by decide)] at cR
      clear cK cU hB5
      rcases hz with h1 | ⟨h1, h2⟩
      all_goals
        go_wp2_with (first | (go_at_call 11; refine cR.mono ?_; rintro e W6 ⟨rfl, hB6⟩))
        go_ret
        exact ⟨rfl, on1K H5.out hB6 (Nat.le_refl _)⟩
  · by_cases h1 : n < 1
    · go_enter Tryz.func4, Tryz.ntmps4
      go_wp2
      go_ret
      exact ⟨rfl, Below.refl _ _⟩
    · have h2 : n > 50 := by omega
      clear hn
      go_enter Tryz.func4, Tryz.ntmps4
      go_wp2
      go_ret
      exact ⟨rfl, Below.refl _ _⟩
end Go.Proofs.YtjnjbajnmclmjaaGreatDoor
