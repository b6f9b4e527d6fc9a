/-
  The walk of kinref1.Kinds.
-/
import Derived.Test.YtholhlibcofojabDoorRefH
namespace Go.Proofs.YtholhlibcofojabDoor
open Go.RowKit
set_option linter.unusedVariables false
set_option linter.unusedSimpArgs false

set_option maxHeartbeats 8000000 in
set_option maxRecDepth 100000 in
theorem rkinds_some (b off cap : Nat) (L : List Kd) (w : World) (hb : b < w.heap.size) (hL : LiesK w b off L) (hP : Parts w L) (hz : SzK L) (hn : L.length ≤ 12) (hc : L.length ≤ cap) (hcm : cap ≤ maxLen) :
    Calls Tryd.prog 11 #[.slice (some ⟨b, off, none⟩) L.length cap] w fun e w' => e = .returned (.tuple #[.string (bs (ksErr L).1), .int .i64 (ksErr L).2]) ∧ Below w.heap.size w w' := by
  have HH : Hid (LiesK w b off L ∧ Parts w L ∧ SzK L ∧ cap ≤ maxLen ∧ ksErr L = ksGo [] L) := ⟨hL, hP, hz, hcm, by unfold ksErr; rw [if_neg (by omega)]⟩
  unfold maxLen at hcm
  clear hL hP hz
  go_enter Tryd.func11, Tryd.ntmps11
  go_wp2
  go_loopw [4, 5] (fun i _ wr => ∃ k : Nat, k ≤ L.length ∧ i = .int .i64 k ∧ (ksErr L = ksGo (L.take k) (L.drop k) ∧ Good (L.take k)) ∧ Below w.heap.size w wr) (fun i _ _ => L.length - (intOf i).toNat)
  case atStart => exact ⟨0, Nat.zero_le _, rfl, ⟨by rw [HH.out.2.2.2.2]; rfl, fun i k hk => by simp at hk⟩, Below.refl _ _⟩
  case round =>
    obtain ⟨k, hk, rfl, hg, hB⟩ := hrel
    have HG : Hid (ksErr L = ksGo (L.take k) (L.drop k) ∧ Good (L.take k)) := hg
    clear hg
    by_cases hlt : k < L.length
    · obtain ⟨p, hp⟩ : ∃ p, L[k]? = some p := ⟨L[k], by simp [hlt]⟩
      obtain ⟨hL, hP, hz, hcm', _⟩ := HH.out
      obtain ⟨c0, c1, c2⟩ := hL k p hp
      have cc := rk_some b off cap L k p wr (Nat.lt_of_lt_of_le hb hB.size) (hL.on hb hB) (hP.on hB) hz hn hc hcm' hp HG.out.2
      have HD : Hid (L.drop k = p :: L.drop (k + 1) ∧ L.take (k + 1) = L.take k ++ [p] ∧ L[k]? = some p) := ⟨dropK hp, takeK hp, hp⟩
      have hki : (k : Int) < (L.length : Int) := by omega
      by_cases he : kErr (L.take k) p = 0
      · rw [he] at cc
        have HS : Hid (ksErr L = ksGo (L.take (k + 1)) (L.drop (k + 1)) ∧ Good (L.take (k + 1))) := by
          obtain ⟨h1, h2⟩ := HG.out
          obtain ⟨e1, e2, e3⟩ := HD.out
          refine ⟨?_, ?_⟩
          · rw [h1, e1, e2]
            conv => lhs; unfold ksGo
            rw [if_pos he]
          · intro i x hx
            rw [List.getElem?_take] at hx
            split at hx
            · rename_i hi
              rw [List.take_take, Nat.min_eq_left (by omega)]
              by_cases hik : i = k
              · subst hik
                rw [e3] at hx
                obtain rfl := Option.some.inj hx
                exact he
              · have := h2 i x (by rw [List.getElem?_take, if_pos (by omega)]; exact hx)
                rwa [List.take_take, Nat.min_eq_left (by omega)] at this
            · cases hx
        clear HG he hL hP hz hcm' c0 c1 c2 hp
        go_wp2_with (go_at_call 27; refine cc.mono ?_; rintro e w' ⟨rfl, hB1⟩)
        go_roundw
        case rel => exact ⟨k + 1, by omega, by go_num, HS.out, on1 hB hB1 (Nat.le_refl _)⟩
        case measure => simp [intOf]; omega
      · have HS : Hid (ksErr L = (p.nm, kErr (L.take k) p) ∧ ¬ kErr (L.take k) p = 0) := by
          refine ⟨?_, he⟩
          rw [HG.out.1, HD.out.1]
          conv => lhs; unfold ksGo
          rw [if_neg he]
        obtain ⟨x, hx⟩ : ∃ x, x = kErr (L.take k) p := ⟨_, rfl⟩
        rw [← hx] at cc he
        have hxb : (x != 0) = true := by simpa using he
        have HXX : Hid (x = kErr (L.take k) p) := hx
        clear HG hL hP hz hcm' c1 c2 hp hx
        have hBr := hB
        go_wp2_with (go_at_call 27; refine cc.mono ?_; rintro e W1 ⟨rfl, hB1⟩; refine Hid.out ?_)
        refine Lib.hid ?_
        have hBt := on1 hB hB1 (Nat.le_refl _)
        have g0 := (hBt.cell (p := ⟨b, off + k * 3, none⟩) hb).trans c0
        clear cc
        go_wp2
        go_ret2
        exact ⟨ret_v (by rw [HS.out.1, HXX.out]; rfl), hBt⟩
    · have hd : L.drop k = [] := List.drop_eq_nil_of_le (by omega)
      have H : Hid (ksErr L = ([], 0)) := by
        show _ = _
        rw [HG.out.1, hd]; rfl
      clear HG hd
      go_wp2
      go_ret2
      exact ⟨ret_v (by rw [H.out]; rfl), hB⟩
set_option maxHeartbeats 1000000 in
theorem rkinds_nil (w : World) : Calls Tryd.prog 11 #[.slice none 0 0] w fun e w' => e = .returned (.tuple #[.string (bs (ksErr []).1), .int .i64 (ksErr []).2]) ∧ Below w.heap.size w w' := by
  go_enter Tryd.func11, Tryd.ntmps11
  go_wp2
  go_loopw [4, 5] (fun i _ wr => i = .int .i64 0 ∧ wr = w) (fun i _ _ => 0)
  case atStart => exact ⟨rfl, rfl⟩
  case round =>
    obtain ⟨rfl, rfl⟩ := hrel
    go_wp2
    go_ret2
    exact ⟨rfl, Below.refl _ _⟩
set_option maxHeartbeats 1000000 in
theorem rkinds_many (ao : Option Addr) (n cap : Nat) (w : World) (h : 12 < n) (hm : n ≤ maxLen) : Calls Tryd.prog 11 #[.slice ao n cap] w fun e w' => e = .returned (.tuple #[.string ⟨#[]⟩, .int .i64 4]) ∧ Below w.heap.size w w' := by
  unfold maxLen at hm
  go_enter Tryd.func11, Tryd.ntmps11
  go_wp2
  go_ret2
  exact ⟨rfl, Below.refl _ _⟩
theorem rkinds_any {v : Value} {L : List Kd} {w : World} (h : IsK w v L) (hP : Parts w L) (hz : SzK L) : Calls Tryd.prog 11 #[v] w fun e w' => e = .returned (.tuple #[.string (bs (ksErr L).1), .int .i64 (ksErr L).2]) ∧ Below w.heap.size w w' := by
  rcases h with ⟨rfl, rfl⟩ | ⟨b, off, cap, rfl, hc, hm, hb, hl⟩
  · exact rkinds_nil w
  · by_cases h8 : 12 < L.length
    · have e : ksErr L = ([], 4) := by unfold ksErr; rw [if_pos h8]
      rw [e]; exact rkinds_many _ _ _ _ h8 (by omega)
    · exact rkinds_some b off cap L w hb hl hP hz (by omega) hc hm
end Go.Proofs.YtholhlibcofojabDoor
