/-
  What the specification's function Number gives; the plain mathematics of a text in quotes.
-/
import Derived.Test.YtmgkdghkenpmbaaGreatDoorTellsD
namespace Go.Proofs.YtmgkdghkenpmbaaGreatDoor
open Go.RowKit
set_option linter.unusedVariables false
set_option linter.unusedSimpArgs false

theorem dig_iff (c : UInt8) : (noDig c = true) ↔ ((c.toNat : Int) < 48 ∨ 57 < (c.toNat : Int)) := by unfold noDig; simp
theorem dec_snoc (l : List UInt8) (c : UInt8) (h : hasP noDig l = false) (hc : noDig c = false) : dec (l ++ [c]) = dec l * 10 + (c.toNat : Int) - 48 := by
  obtain ⟨m, hm⟩ := dec_of l 0 h
  obtain ⟨d1, d2, d3⟩ := digit_inv c hc
  have := decFrom_snoc l 0 m c _ hm d1
  unfold noDig at hc; simp at hc
  unfold dec; rw [hm, this]; simp; omega
theorem dec_bound (l : List UInt8) (h : hasP noDig l = false) (hl : l.length ≤ 9) : 0 ≤ dec l ∧ dec l < 1000000000 := by
  obtain ⟨m, hm⟩ := dec_of l 0 h
  have hlt := Lib.decFrom_lt _ _ _ hm
  have hp : 10 ^ l.length ≤ 10 ^ 9 := Nat.pow_le_pow_right (by decide) hl
  have hdec : dec l = (m : Int) := by unfold dec; rw [hm]; rfl
  omega
theorem isNum_of {s : ByteArray} (h0 : 0 < s.size) (h9 : s.size ≤ 9) (hz : ¬ s[0] = 48 ∨ s.size = 1) : isNum s.data.toList = !hasP noDig s.data.toList := by
  have hsz := size_len s
  have hl := head_list s h0
  have hdl : s.size = (s.data.toList.drop 1).length + 1 := by rw [hsz, List.length_drop]; omega
  have h8 : (s.data.toList.drop 1).length ≤ 8 := by omega
  have hz2 : (!decide (s[0] = 48) || (s.data.toList.drop 1).isEmpty) = true := by
    rcases hz with h | h
    · simp [h]
    · have : s.data.toList.drop 1 = [] := by apply List.eq_nil_of_length_eq_zero; omega
      rw [this]; simp
  rw [hl]; simp only [isNum, h8, hz2]; simp
theorem isNum_no {s : ByteArray} (h : s.data.toList = [] ∨ 9 < s.size ∨ (∃ h0 : 0 < s.size, s[0] = 48 ∧ 1 < s.size)) : isNum s.data.toList = false := by
  rcases h with h | h | ⟨h0, hz, h1⟩
  · rw [h]; rfl
  · have hsz := size_len s
    have hl := head_list s (by omega)
    have hdl : s.size = (s.data.toList.drop 1).length + 1 := by rw [hsz, List.length_drop]; omega
    rw [hl]; simp [isNum]; omega
  · have hsz := size_len s
    have hl := head_list s h0
    have hdl : s.size = (s.data.toList.drop 1).length + 1 := by rw [hsz, List.length_drop]; omega
    have hne : ¬ s.data.toList.drop 1 = [] := by intro e; rw [e] at hdl; simp at hdl; omega
    rw [hl, hz]
    generalize s.data.toList.drop 1 = r at hne
    cases r with
    | nil => exact absurd rfl hne
    | cons a b => simp [isNum]

/-- The number that a text is; 0: it is none. -/
def numV (l : List UInt8) : Int := if isNum l = true then dec l else 0
theorem numV_no {l : List UInt8} (h : isNum l = false) : numV l = 0 := by unfold numV; rw [h]; rfl
theorem numV_ok {l : List UInt8} (h : isNum l = true) : numV l = dec l := by unfold numV; rw [if_pos h]

set_option maxHeartbeats 2000000 in
set_option maxRecDepth 100000 in
theorem number_any (s : ByteArray) (w : World) (hs : s.size ≤ maxLen) :
    Calls Tryz.prog 73 #[.string s, .int .i64 9] w fun e w' => e = .returned (.tuple #[.int .i64 (numV s.data.toList), .bool (isNum s.data.toList)]) ∧ w' = w := by
  by_cases hE : s.data.toList = []
  · obtain rfl := list_eq hE
    go_enter Tryz.func73, Tryz.ntmps73
    go_wp2
    go_ret2
    exact ⟨rfl, rfl⟩
  have bE : s.toList.isEmpty = false := nonE s hE
  have bN : ¬ s.toList = [] := by rw [Lib.toList_data]; exact hE
  have hsz : 0 < s.size := by rw [size_len]; exact List.length_pos_iff.2 hE
  by_cases h9 : 9 < s.size
  · have hno := isNum_no (Or.inr (Or.inl h9))
    rw [numV_no hno, hno]
    clear hE hsz
    unfold maxLen at hs
    go_enter Tryz.func73, Tryz.ntmps73
    go_wp2
    go_ret2
    exact ⟨rfl, rfl⟩
  by_cases hz : s[0] = 48 ∧ 1 < s.size
  · have hno := isNum_no (Or.inr (Or.inr ⟨hsz, hz⟩))
    rw [numV_no hno, hno]
    obtain ⟨hz0, hz1⟩ := hz
    clear hE
    go_enter Tryz.func73, Tryz.ntmps73
    go_wp2
    go_ret2
    exact ⟨rfl, rfl⟩
  have H1 : Hid (isNum s.data.toList = !hasP noDig s.data.toList) := isNum_of hsz (by omega) (by
    by_cases h48 : s[0] = 48
    · right
      have : ¬ 1 < s.size := fun h => hz ⟨h48, h⟩
      omega
    · exact Or.inl h48)
  have hz' : (¬ (s[0].toNat : Int) = 48) ∨ (s[0] = 48 ∧ ¬ 1 < s.size) := by
    by_cases h48 : s[0] = 48
    · exact Or.inr ⟨h48, fun h => hz ⟨h48, h⟩⟩
    · exact Or.inl (eq48 h48)
  have hs9 : s.size ≤ 9 := by omega
  clear hE hz h9
  rcases hz' with hz' | ⟨hz', hz1⟩
  all_goals
    go_enter Tryz.func73, Tryz.ntmps73
    go_wp2
    go_loop [6, 7] (fun n i => ∃ k : Nat, k ≤ s.size ∧ i = .int .i64 k ∧ n = .int .i64 (dec (s.data.toList.take k)) ∧ (s.data.toList.take k).any noDig = false) (fun n i => s.size - (intOf i).toNat)
    case atStart => exact ⟨0, Nat.zero_le _, rfl, rfl, rfl⟩
    case round =>
      obtain ⟨k, hk, rfl, rfl, hno⟩ := hrel
      have HN : Hid ((s.data.toList.take k).any noDig = false) := hno
      have htl : (s.data.toList.take k).length ≤ 9 := by
        have := List.length_take_le k s.data.toList
        omega
      have hbd := dec_bound (s.data.toList.take k) hno htl
      by_cases hlt : k < s.size
      · by_cases hb : noDig s[k] = true
        · have H2 : Hid (isNum s.data.toList = false) := by
            show _ = _
            rw [H1.out, ← any_hit _ s k hlt hb]; rfl
          rcases (dig_iff _).1 hb with h | h
          all_goals
            clear hb hno hbd htl
            go_wp2
            go_ret2
            exact ⟨ret_v (by rw [numV_no H2.out, H2.out]; rfl), rfl⟩
        · have HB : Hid (noDig s[k] = false) := by show _ = _; simpa using hb
          have h1 : 48 ≤ (s[k].toNat : Int) := by rw [dig_iff] at hb; omega
          have h2 : (s[k].toNat : Int) ≤ 57 := by rw [dig_iff] at hb; omega
          have HD : Hid (dec (s.data.toList.take (k + 1)) = dec (s.data.toList.take k) * 10 + (s[k].toNat : Int) - 48) := by
            show _ = _
            rw [take_snoc s k hlt]; exact dec_snoc _ _ hno HB.out
          obtain ⟨hb0, hb1⟩ := hbd
          clear hb hno htl
          generalize dec (s.data.toList.take k) = a at *
          go_wp2
          go_round
          case rel => exact ⟨k + 1, by omega, by go_num, by rw [HD.out], any_snoc _ s k hlt HN.out HB.out⟩
          case measure => simp [intOf]; omega
      · have H2 : Hid (isNum s.data.toList = true ∧ s.data.toList.take k = s.data.toList) := by
          refine ⟨?_, List.take_of_length_le (by rw [← size_len]; omega)⟩
          rw [H1.out, ← any_end _ s k hlt HN.out]; rfl
        clear hno hbd htl
        go_wp2
        go_ret2
        exact ⟨ret_v (by rw [numV_ok H2.out.1, H2.out.1, ← congrArg dec H2.out.2]; rfl), rfl⟩

/-- A text behind its first quote, as the specification reads it. -/
def rdT : List UInt8 → Option (List UInt8)
  | [] => none
  | [c] => if c = 39 then some [] else none
  | c :: d :: r => if badB c = true then none else if c = 39 then (if d = 39 then (rdT r).map (39 :: ·) else none) else (rdT (d :: r)).map (c :: ·)

theorem hasP_cons (p : UInt8 → Bool) (c : UInt8) (l : List UInt8) : hasP p (c :: l) = (p c || hasP p l) := rfl
theorem bad39 : badB 39 = false := by decide
/-- Only what is printable. -/
def prn (o : Option (List UInt8)) : Option (List UInt8) := o.bind fun r => if hasP badB r = true then none else some r
theorem prn_map (c : UInt8) (o : Option (List UInt8)) (h : badB c = false) : prn (o.map (c :: ·)) = (prn o).map (c :: ·) := by
  cases o with
  | none => rfl
  | some r => simp only [prn, Option.map_some, Option.bind_some, hasP_cons, h, Bool.false_or]; split <;> rfl
theorem prn_bad (c : UInt8) (o : Option (List UInt8)) (h : badB c = true) : prn (o.map (c :: ·)) = none := by
  cases o with
  | none => rfl
  | some r => simp [prn, hasP_cons, h]
/-- A text behind its first quote, as the program reads it. -/
def unU (l : List UInt8) : Option (List UInt8) := if l.getLast? = some 39 then und l.dropLast else none
theorem unqL_cons (l : List UInt8) : unqL (39 :: l) = unU l := by simp [unqL, unU]

theorem rdT_eq (l : List UInt8) : rdT l = prn (unU l) := by
  induction l using rdT.induct with
  | case1 => simp [rdT, unU, prn]
  | case2 => simp [rdT, unU, prn, und, hasP]
  | case3 c hc => simp [rdT, unU, prn, hc]
  | case4 c d r hb =>
    have hne : ¬ c = 39 := by intro e; rw [e, bad39] at hb; simp at hb
    have e : unU (c :: d :: r) = (unU (d :: r)).map (c :: ·) := by
      unfold unU
      rw [List.getLast?_cons_cons]
      by_cases h : (d :: r).getLast? = some 39
      · rw [if_pos h, if_pos h, List.dropLast_cons_of_ne_nil (by simp), und_cons_ne c _ hne]
      · rw [if_neg h, if_neg h]; rfl
    rw [e, prn_bad c _ hb]; simp [rdT, hb]
  | case5 r hb ih =>
    have e : unU (39 :: 39 :: r) = (unU r).map (39 :: ·) := by
      unfold unU
      cases r with
      | nil => simp [und]
      | cons a q =>
        rw [List.getLast?_cons_cons, List.getLast?_cons_cons]
        by_cases h : (a :: q).getLast? = some 39
        · rw [if_pos h, if_pos h, List.dropLast_cons_of_ne_nil (by simp), List.dropLast_cons_of_ne_nil (by simp), und_qq]
        · rw [if_neg h, if_neg h]; rfl
    rw [e, prn_map 39 _ bad39, ← ih]; simp [rdT, bad39]
  | case6 d r hd hb =>
    have e : unU (39 :: d :: r) = none := by
      unfold unU
      cases r with
      | nil => by_cases h : d = 39 <;> simp [und, h] at *
      | cons a q =>
        by_cases h : (39 :: d :: a :: q).getLast? = some 39
        · rw [if_pos h, List.dropLast_cons_of_ne_nil (by simp), List.dropLast_cons_of_ne_nil (by simp), und_q_ne _ _ hd]
        · rw [if_neg h]
    rw [e]; simp [rdT, bad39, hd, prn]
  | case7 c d r hb hc ih =>
    have hb' : badB c = false := by simpa using hb
    have e : unU (c :: d :: r) = (unU (d :: r)).map (c :: ·) := by
      unfold unU
      rw [List.getLast?_cons_cons]
      by_cases h : (d :: r).getLast? = some 39
      · rw [if_pos h, if_pos h, List.dropLast_cons_of_ne_nil (by simp), und_cons_ne c _ hc]
      · rw [if_neg h, if_neg h]; rfl
    rw [e, prn_map c _ hb', ← ih]; simp [rdT, hb', hc]
end Go.Proofs.YtmgkdghkenpmbaaGreatDoor
