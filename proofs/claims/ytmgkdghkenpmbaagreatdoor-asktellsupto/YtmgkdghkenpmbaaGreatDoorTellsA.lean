/-
  What the specification's functions Value, Name and Order give: the same as package value's.
-/
import Derived.Test.YtmgkdghkenpmbaaGreatDoorBackD
namespace Go.Proofs.YtmgkdghkenpmbaaGreatDoor
open Go.RowKit
set_option linter.unusedVariables false
set_option linter.unusedSimpArgs false

theorem bad_iff (c : UInt8) : (badB c = true) ↔ ((c.toNat : Int) < 32 ∨ 126 < (c.toNat : Int)) := by unfold badB; simp
theorem let_iff (c : UInt8) : (noLet c = true) ↔ ((c.toNat : Int) < 97 ∨ 122 < (c.toNat : Int)) := by unfold noLet; simp
theorem ret_int {k : IntKind} {a b : Int} (h : a = b) : Ending.returned (.int k a) = .returned (.int k b) := by rw [h]

set_option maxHeartbeats 2000000 in
set_option maxRecDepth 100000 in
theorem rname_any (s : ByteArray) (w : World) (hs : s.size ≤ maxLen) :
    Calls Tryz.prog 17 #[.string s] w fun e w' => e = .returned (.int .i64 (nErr s.data.toList)) ∧ w' = w := by
  by_cases hE : s.data.toList = []
  · obtain rfl := list_eq hE
    go_enter Tryz.func17, Tryz.ntmps17
    go_wp2
    go_ret
    exact ⟨rfl, rfl⟩
  · have bE : s.toList.isEmpty = false := nonE s hE
    have bN : ¬ s.toList = [] := by rw [Lib.toList_data]; exact hE
    have hsz := size_len s
    by_cases h8 : 8 < s.size
    · have H1 : Hid (nErr s.data.toList = 2) := by
        show _ = _
        unfold nErr; rw [if_neg hE, if_pos (by omega)]
      clear hE hsz
      unfold maxLen at hs
      go_enter Tryz.func17, Tryz.ntmps17
      go_wp2
      go_ret
      exact ⟨ret_int (by rw [H1.out]), rfl⟩
    · have H1 : Hid (nErr s.data.toList = if hasP noLet s.data.toList = true then 2 else 0) := by
        show _ = _
        unfold nErr; rw [if_neg hE, if_neg (by omega)]
      clear hE hsz
      go_enter Tryz.func17, Tryz.ntmps17
      go_wp2
      go_loop [3] (fun i => ∃ k : Nat, k ≤ s.size ∧ i = .int .i64 k ∧ (s.data.toList.take k).any noLet = false) (fun i => s.size - (intOf i).toNat)
      case atStart => exact ⟨0, Nat.zero_le _, rfl, rfl⟩
      case round =>
        obtain ⟨k, hk, rfl, hno⟩ := hrel
        have HN : Hid ((s.data.toList.take k).any noLet = false) := hno
        clear hno
        by_cases hlt : k < s.size
        · by_cases hb : noLet s[k] = true
          · have HB : Hid (noLet s[k] = true) := hb
            rcases (let_iff _).1 hb with h | h
            all_goals
              clear hb
              go_wp2
              go_ret
              exact ⟨ret_int (by rw [H1.out, if_pos (any_hit _ s k hlt HB.out).symm]), rfl⟩
          · have HB : Hid (noLet s[k] = false) := by show _ = _; simpa using hb
            have h1 : 97 ≤ (s[k].toNat : Int) := by rw [let_iff] at hb; omega
            have h2 : (s[k].toNat : Int) ≤ 122 := by rw [let_iff] at hb; omega
            clear hb
            go_wp2
            go_round
            case rel => exact ⟨k + 1, by omega, by go_num, any_snoc _ s k hlt HN.out HB.out⟩
            case measure => simp [intOf]; omega
        · go_wp2
          go_ret
          exact ⟨ret_int (by rw [H1.out, if_neg (by rw [← any_end _ s k hlt HN.out]; decide)]), rfl⟩

set_option maxHeartbeats 2000000 in
set_option maxRecDepth 100000 in
theorem rvalue_text (s : ByteArray) (w : World) (hs : s.size ≤ maxLen) :
    Calls Tryz.prog 31 #[agg 3 0 s] w fun e w' => e = .returned (.int .i64 (tErr s.data.toList)) ∧ Below w.heap.size w w' := by
  have hsz := size_len s
  by_cases h20 : 20 < s.size
  · have H1 : Hid (tErr s.data.toList = 4) := by
      show _ = _
      unfold tErr; rw [if_pos (by omega)]
    clear hsz
    unfold maxLen at hs
    go_enter Tryz.func31, Tryz.ntmps31
    go_wp2
    go_ret
    exact ⟨ret_int (by rw [H1.out]), (Below.refl _ _).alloc (Nat.le_refl _) _⟩
  · have H1 : Hid (tErr s.data.toList = if hasP badB s.data.toList = true then 2 else 0) := by
      show _ = _
      unfold tErr; rw [if_neg (by omega)]
    clear hsz
    go_enter Tryz.func31, Tryz.ntmps31
    go_wp2
    go_loop [3] (fun i => ∃ k : Nat, k ≤ s.size ∧ i = .int .i64 k ∧ (s.data.toList.take k).any badB = false) (fun i => s.size - (intOf i).toNat)
    case atStart => exact ⟨0, Nat.zero_le _, rfl, rfl⟩
    case round =>
      obtain ⟨k, hk, rfl, hno⟩ := hrel
      have HN : Hid ((s.data.toList.take k).any badB = false) := hno
      clear hno
      by_cases hlt : k < s.size
      · by_cases hb : badB s[k] = true
        · have HB : Hid (badB s[k] = true) := hb
          rcases (bad_iff _).1 hb with h | h
          all_goals
            clear hb
            go_wp2
            go_ret
            exact ⟨ret_int (by rw [H1.out, if_pos (any_hit _ s k hlt HB.out).symm]), (Below.refl _ _).alloc (Nat.le_refl _) _⟩
        · have HB : Hid (badB s[k] = false) := by show _ = _; simpa using hb
          have h1 : 32 ≤ (s[k].toNat : Int) := by rw [bad_iff] at hb; omega
          have h2 : (s[k].toNat : Int) ≤ 126 := by rw [bad_iff] at hb; omega
          clear hb
          go_wp2
          go_round
          case rel => exact ⟨k + 1, by omega, by go_num, any_snoc _ s k hlt HN.out HB.out⟩
          case measure => simp [intOf]; omega
      · go_wp2
        go_ret
        exact ⟨ret_int (by rw [H1.out, if_neg (by rw [← any_end _ s k hlt HN.out]; decide)]), (Below.refl _ _).alloc (Nat.le_refl _) _⟩

set_option maxHeartbeats 2000000 in
set_option maxRecDepth 100000 in
theorem rvalue_type (t n : Int) (s : ByteArray) (w : World) (h : t < 1 ∨ 3 < t) :
    Calls Tryz.prog 31 #[agg t n s] w fun e w' => e = .returned (.int .i64 8) ∧ Below w.heap.size w w' := by
  rcases h with h | h
  all_goals
    go_enter Tryz.func31, Tryz.ntmps31
    go_wp2
    go_ret
    exact ⟨rfl, (Below.refl _ _).alloc (Nat.le_refl _) _⟩
set_option maxHeartbeats 2000000 in
set_option maxRecDepth 100000 in
theorem rvalue_range (t n : Int) (s : ByteArray) (w : World) (h : (t = 1 ∧ n < -1000000) ∨ (t = 1 ∧ 1000000 < n) ∨ (t = 2 ∧ n < 0) ∨ (t = 2 ∧ 1 < n) ∨ (t = 3 ∧ ¬ n = 0)) :
    Calls Tryz.prog 31 #[agg t n s] w fun e w' => e = .returned (.int .i64 1) ∧ Below w.heap.size w w' := by
  rcases h with ⟨rfl, h⟩ | ⟨rfl, h⟩ | ⟨rfl, h⟩ | ⟨rfl, h⟩ | ⟨rfl, h⟩
  · go_enter Tryz.func31, Tryz.ntmps31
    go_wp2
    go_ret
    exact ⟨rfl, (Below.refl _ _).alloc (Nat.le_refl _) _⟩
  · have h' : ¬ n < -1000000 := by omega
    go_enter Tryz.func31, Tryz.ntmps31
    go_wp2
    go_ret
    exact ⟨rfl, (Below.refl _ _).alloc (Nat.le_refl _) _⟩
  · go_enter Tryz.func31, Tryz.ntmps31
    go_wp2
    go_ret
    exact ⟨rfl, (Below.refl _ _).alloc (Nat.le_refl _) _⟩
  · have h' : ¬ n < 0 := by omega
    go_enter Tryz.func31, Tryz.ntmps31
    go_wp2
    go_ret
    exact ⟨rfl, (Below.refl _ _).alloc (Nat.le_refl _) _⟩
  · have h' : (n != 0) = true := by simpa using h
    clear h
    go_enter Tryz.func31, Tryz.ntmps31
    go_wp2
    go_ret
    exact ⟨rfl, (Below.refl _ _).alloc (Nat.le_refl _) _⟩
set_option maxHeartbeats 2000000 in
set_option maxRecDepth 100000 in
theorem rvalue_other (t n : Int) (s : ByteArray) (w : World) (h : (t = 1 ∧ -1000000 ≤ n ∧ n ≤ 1000000) ∨ (t = 2 ∧ 0 ≤ n ∧ n ≤ 1)) :
    Calls Tryz.prog 31 #[agg t n s] w fun e w' => e = .returned (.int .i64 (if s.data.toList = [] then 0 else 2)) ∧ Below w.heap.size w w' := by
  by_cases hE : s.data.toList = []
  · rw [if_pos hE]
    obtain rfl := list_eq hE
    rcases h with ⟨rfl, h1, h2⟩ | ⟨rfl, h1, h2⟩
    all_goals
      go_enter Tryz.func31, Tryz.ntmps31
      go_wp2
      go_loop [3] (fun i => i = .int .i64 0) (fun i => 0)
      case atStart => exact rfl
      case round =>
        obtain rfl := hrel
        go_wp2
        go_ret
        exact ⟨rfl, (Below.refl _ _).alloc (Nat.le_refl _) _⟩
  · rw [if_neg hE]
    have bE : s.toList.isEmpty = false := nonE s hE
    have bN : ¬ s.toList = [] := by rw [Lib.toList_data]; exact hE
    clear hE
    rcases h with ⟨rfl, h1, h2⟩ | ⟨rfl, h1, h2⟩
    all_goals
      go_enter Tryz.func31, Tryz.ntmps31
      go_wp2
      go_ret
      exact ⟨rfl, (Below.refl _ _).alloc (Nat.le_refl _) _⟩

theorem rvalue_any (t n : Int) (s : ByteArray) (hs : s.size ≤ maxLen) : Gives 31 #[agg t n s] (.int .i64 (vErr t n s.data.toList)) := fun w => by
  by_cases ht : t = 1 ∨ t = 2 ∨ t = 3
  · by_cases hr : inR t n = true
    · have hv : vErr t n s.data.toList = if t = 3 then tErr s.data.toList else if s.data.toList = [] then 0 else 2 := by unfold vErr; rw [if_pos ht, if_pos hr]
      rw [hv]
      rcases ht with rfl | rfl | rfl
      · rw [if_neg (by decide)]
        exact rvalue_other 1 n s w (Or.inl ⟨rfl, by simp [inR] at hr; omega, by simp [inR] at hr; omega⟩)
      · rw [if_neg (by decide)]
        exact rvalue_other 2 n s w (Or.inr ⟨rfl, by simp [inR] at hr; omega, by simp [inR] at hr; omega⟩)
      · rw [if_pos rfl]
        have hn : n = 0 := by simpa [inR] using hr
        subst hn
        exact rvalue_text s w hs
    · have hv : vErr t n s.data.toList = 1 := by unfold vErr; rw [if_pos ht, if_neg hr]
      rw [hv]
      refine rvalue_range t n s w ?_
      rcases ht with rfl | rfl | rfl
      · simp [inR] at hr; omega
      · simp [inR] at hr; omega
      · simp [inR] at hr; omega
  · have hv : vErr t n s.data.toList = 8 := by unfold vErr; rw [if_neg ht]
    rw [hv]
    exact rvalue_type t n s w (by omega)
end Go.Proofs.YtmgkdghkenpmbaaGreatDoor
