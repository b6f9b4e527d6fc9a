/-
  The law SchemaLines of the program, walked: a schema's text has as many lines as it has kinds and bonds.
-/
import Derived.Test.YtgjlonilbhlneaaDoorSchS
namespace Go.Proofs.YtgjlonilbhlneaaDoor
open Go.RowKit
set_option linter.unusedVariables false
set_option linter.unusedSimpArgs false

/-- The kind that the law makes. -/
def kA : Kd := ⟨[97], [], [], .slice none 0 0, .slice none 0 0⟩
theorem sA : (sErr [kA] []).2 = 0 := by decide
theorem tA : sText [kA] [] = [107, 105, 110, 100, 32, 97, 10] := by decide
theorem isA (W : World) : IsK (W.alloc (.cells #[.string ⟨#[97]⟩, .slice none 0 0, .slice none 0 0] 33)) (.slice (some ⟨W.heap.size, 0, none⟩) 1 1) [kA] ∧ Parts (W.alloc (.cells #[.string ⟨#[97]⟩, .slice none 0 0, .slice none 0 0] 33)) [kA] ∧ SzK [kA] := by
  refine ⟨.inr ⟨W.heap.size, 0, 1, rfl, by simp, by unfold maxLen; omega, by simp, ?_⟩, ?_, ?_⟩
  · intro i k hk
    cases i with
    | zero =>
      obtain rfl : kA = k := by simpa using hk
      refine ⟨?_, ?_, ?_⟩ <;> simp [kA, bs]
    | succ i => simp at hk
  · intro k hk
    obtain rfl : k = kA := by simpa using hk
    exact ⟨.inl ⟨none, 0, rfl, rfl, by unfold maxLen; omega, fun _ => rfl⟩, .inl ⟨none, 0, rfl, rfl, by unfold maxLen; omega, fun _ => rfl⟩⟩
  · intro k hk
    obtain rfl : k = kA := by simpa using hk
    exact ⟨by show 1 ≤ _; unfold maxLen; omega, fun f hf => by simp [kA] at hf⟩
theorem nl_snoc (l : Nm) (c : UInt8) : nl (l ++ [c]) = nl l + if c = 10 then 1 else 0 := by
  rw [nl_app]
  congr 1
  unfold nl
  by_cases h : c = 10 <;> simp [h]
theorem nl_le (l : Nm) : nl l ≤ l.length := List.countP_le_length

set_option maxHeartbeats 4000000 in
set_option maxRecDepth 100000 in
theorem lines_walk {vk vb : Value} {L : List Kd} {B : List Bd} {w : World} (hK : IsK w vk L) (hP : Parts w L) (hz : SzK L) (hb : IsB w vb B) (hzb : SzB B) (hT : TW w) :
    Calls Tryd.prog 3 #[.agg #[vk, vb]] w fun e w' => e = .returned (.bool true) ∧ Below w.heap.size w w' := by
  obtain ⟨ak, ck, evk, hkl, _⟩ := isK_view hK
  obtain ⟨ab, cb, evb, _, _, _⟩ := isB_view hb
  obtain ⟨_, _, _, hbl⟩ := hb.sln
  subst evk
  subst evb
  have hB0 : Below w.heap.size w ((w.alloc (.cells #[.slice ak L.length ck, .slice ab B.length cb] 25)).alloc (.cells #[.string ⟨#[97]⟩, .slice none 0 0, .slice none 0 0] 33)) := b_alloc (b_alloc (Below.refl _ _) (Nat.le_refl _) _) (Nat.le_refl _) _
  obtain ⟨a1, a2, a3⟩ := isA (w.alloc (.cells #[.slice ak L.length ck, .slice ab B.length cb] 25))
  have c1 := sprint_ok a1 a2 a3 (.inl ⟨rfl, rfl⟩ : IsB _ (.slice none 0 0) []) (fun x hx => by simp at hx) (hT.on hB0) sA
  rw [tA] at c1
  simp only [World.size_alloc] at c1
  have HH : Hid (IsK w (.slice ak L.length ck) L ∧ Parts w L ∧ SzK L ∧ IsB w (.slice ab B.length cb) B ∧ SzB B ∧ TW w) := ⟨hK, hP, hz, hb, hzb, hT⟩
  have HB0 : Hid (Below w.heap.size w ((w.alloc (.cells #[.slice ak L.length ck, .slice ab B.length cb] 25)).alloc (.cells #[.string ⟨#[97]⟩, .slice none 0 0, .slice none 0 0] 33))) := hB0
  have hbs : bs [107, 105, 110, 100, 32, 97, 10] = ⟨#[107, 105, 110, 100, 32, 97, 10]⟩ := rfl
  rw [hbs] at c1
  unfold maxLen at hkl hbl
  clear hK hP hz hb hzb hT a1 a2 a3 hB0 hbs
  go_enter Tryd.func3, Tryd.ntmps3
  go_wp2_with (go_at_call 4; refine c1.mono ?_; rintro e W1 ⟨rfl, hB1⟩; refine Hid.out ?_)
  refine Lib.hid ?_
  have hlt0 : w.heap.size < ((w.alloc (.cells #[.slice ak L.length ck, .slice ab B.length cb] 25)).alloc (.cells #[.string ⟨#[97]⟩, .slice none 0 0, .slice none 0 0] 33)).heap.size := by simp; omega
  replace hB1 : Below ((w.alloc (.cells #[.slice ak L.length ck, .slice ab B.length cb] 25)).alloc (.cells #[.string ⟨#[97]⟩, .slice none 0 0, .slice none 0 0] 33)).heap.size ((w.alloc (.cells #[.slice ak L.length ck, .slice ab B.length cb] 25)).alloc (.cells #[.string ⟨#[97]⟩, .slice none 0 0, .slice none 0 0] 33)) W1 := by
    rw [World.size_alloc, World.size_alloc]; exact hB1
  have g0 := hB1.cell (p := ⟨w.heap.size, 0, none⟩) hlt0
  have g1 := hB1.cell (p := ⟨w.heap.size, 1, none⟩) hlt0
  simp at g0 g1
  have hBw1 := on1 HB0.out hB1 (Nat.le_refl _)
  have hsz1 : w.heap.size < W1.heap.size := Nat.lt_of_lt_of_le hlt0 hB1.size
  obtain ⟨k1, k2, k3, k4, k5, k6⟩ := HH.out
  by_cases he : (sErr L B).2 = 0
  · have c2 := sprint_ok (k1.on hBw1) (k2.on hBw1) k3 (k4.on hBw1) k5 (k6.on hBw1) he
    have HN : Hid (nl (sText L B) = L.length + B.length) := text_nl he
    have hL12 : L.length ≤ 12 := (ksErr_good.1 (sErr_good.1 he).1).2
    have hB12 : B.length ≤ 12 := (sErr_good.1 he).2.2
    have HZ : (sText L B).length ≤ 100000 := by
      obtain ⟨hks, hGB, hB12⟩ := sErr_good.1 he
      obtain ⟨hG, hL12⟩ := ksErr_good.1 hks
      have h1 := lines_len kWords 444 L (fun k hk => kLine_len k (good_ok hG hk) (name_len (good_name hG hk)))
      have h2 := lines_len bWords 132 B (fun x hx => bLine_len x (good_bond hG hGB hx))
      unfold sText kText bText
      rw [List.length_append]
      omega
    generalize sText L B = T at c2 HN HZ
    have hts : (bs T).size ≤ 100000 := by rw [bs_size]; exact HZ
    have HD : Hid (nl (bs T).data.toList = L.length + B.length) := by rw [bs_data]; exact HN.out
    generalize bs T = s at c2 hts HD
    clear c1 k1 k2 k3 k4 k5 k6 he HN HZ hB1
    go_wp2_with (go_at_call 4; refine c2.mono ?_; rintro e W2 ⟨rfl, hB2⟩; refine Hid.out ?_)
    refine Lib.hid ?_
    have f0 := (hB2.cell (p := ⟨w.heap.size, 0, none⟩) hsz1).trans g0
    have f1 := (hB2.cell (p := ⟨w.heap.size, 1, none⟩) hsz1).trans g1
    have hBw2 := on1 hBw1 hB2 (Nat.le_refl _)
    clear c2 hB2 hBw1 g0 g1
    go_wp2
    go_loop [7, 8] (fun n i => ∃ k : Nat, k ≤ s.size ∧ i = .int .i64 k ∧ n = .int .i64 (nl (s.data.toList.take k))) (fun _ i => s.size - (intOf i).toNat)
    case atStart => exact ⟨0, Nat.zero_le _, rfl, rfl⟩
    case round =>
      obtain ⟨k, hk, rfl, rfl⟩ := hrel
      have hnl := nl_le (s.data.toList.take k)
      have hl : (s.data.toList.take k).length ≤ k := List.length_take_le _ _
      by_cases hlt : k < s.size
      · have hsn := nl_snoc (s.data.toList.take k) s[k]
        rw [← take_snoc s k hlt] at hsn
        by_cases hc : s[k] = 10
        · rw [if_pos hc] at hsn
          have HS : Hid (nl (s.data.toList.take (k + 1)) = nl (s.data.toList.take k) + 1) := hsn
          have hc2 : ((s[k].toNat : Int) == 10) = true := by rw [hc]; rfl
          clear hsn hc
          go_wp2
          go_round
          case rel => exact ⟨k + 1, by omega, by go_num, by rw [HS.out]; go_num⟩
          case measure => simp [intOf]; omega
        · rw [if_neg hc] at hsn
          have HS : Hid (nl (s.data.toList.take (k + 1)) = nl (s.data.toList.take k)) := hsn
          have hc2 : ((s[k].toNat : Int) == 10) = false := by
            have : ¬ (s[k].toNat : Int) = 10 := fun e => hc (by apply UInt8.toNat_inj.1; show _ = 10; omega)
            simpa using this
          clear hsn hc
          go_wp2
          go_round
          case rel => exact ⟨k + 1, by omega, by go_num, by rw [HS.out]⟩
          case measure => simp [intOf]; omega
      · have hte : s.data.toList.take k = s.data.toList := List.take_of_length_le (by simp; omega)
        rw [hte, HD.out]
        clear hnl hl hte
        go_wp2
        go_ret
        exact ⟨ret_bool (by simp), hBw2⟩
  · have c2 := sprint_bad (k1.on hBw1) (k2.on hBw1) k3 (k4.on hBw1) k5 he
    clear c1 k1 k2 k3 k4 k5 k6 hB1
    go_wp2_with (go_at_call 4; refine c2.mono ?_; rintro e W2 ⟨rfl, hB2⟩)
    go_ret
    exact ⟨rfl, on1 hBw1 hB2 (Nat.le_refl _)⟩
end Go.Proofs.YtgjlonilbhlneaaDoor
