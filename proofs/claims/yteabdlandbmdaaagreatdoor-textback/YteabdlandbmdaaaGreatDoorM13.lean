/-
  The walks of strings.Cut at the equals sign, of record.cutWord and of record.parseProp.
-/
import Derived.Test.YteabdlandbmdaaaGreatDoorM10
namespace Go.Proofs.YteabdlandbmdaaaGreatDoor
open Go.RowKit
set_option linter.unusedVariables false
set_option linter.unusedSimpArgs false

theorem index_split (l : List UInt8) : (splitEq l = none → Lib.indexByte l 61 = -1) ∧ (∀ a b, splitEq l = some (a, b) → Lib.indexByte l 61 = (a.length : Int)) := by
  induction l with
  | nil => exact ⟨fun _ => rfl, fun a b h => by simp [splitEq] at h⟩
  | cons c r ih =>
    by_cases hc : c = 61
    · subst hc
      refine ⟨fun h => by simp [splitEq] at h, fun a b h => ?_⟩
      simp [splitEq] at h
      obtain ⟨rfl, rfl⟩ := h
      simp [Lib.indexByte]
    · have hb : (c == 61) = false := by simpa using hc
      refine ⟨fun h => ?_, fun a b h => ?_⟩
      · simp only [splitEq, if_neg hc, Option.map_eq_none_iff] at h
        simp [Lib.indexByte, hb, ih.1 h]
      · simp only [splitEq, if_neg hc] at h
        obtain ⟨⟨x, y⟩, h1, h2⟩ := Option.map_eq_some_iff.1 h
        obtain ⟨rfl, rfl⟩ := Prod.mk.inj h2
        have := ih.2 x y h1
        simp [Lib.indexByte, hb, this]
        try omega
theorem ext_take (s : ByteArray) (k : Nat) (h : k ≤ s.size) : s.extract 0 k = ⟨(s.data.toList.take k).toArray⟩ := by
  apply list_eq
  rw [ByteArray.data_extract, Array.toList_extract, List.extract_eq_take_drop]; simp
theorem ext_drop (s : ByteArray) (k : Nat) (h : k ≤ s.size) : s.extract k s.size = ⟨(s.data.toList.drop k).toArray⟩ := by
  apply list_eq
  rw [ByteArray.data_extract, Array.toList_extract, List.extract_eq_take_drop, size_len]
  exact List.take_of_length_le (by simp)

set_option maxHeartbeats 2000000 in
theorem cutEq_none (s : ByteArray) (w : World) (h : splitEq s.data.toList = none) :
    Calls Tryz.prog 95 #[.string s, .string ⟨#[61]⟩] w fun e w' => e = .returned (.tuple #[.string s, .string ⟨#[]⟩, .bool false]) ∧ Below w.heap.size w w' := by
  have hi := (index_split s.data.toList).1 h
  have c1 := fun w => Tryz.stringslite_Index_one s 61 w
  rw [hi] at c1
  clear h hi
  go_enter Tryz.func95, Tryz.ntmps95
  go_wp2_with (go_at_call 72; refine (c1 _).mono ?_; rintro e w' ⟨rfl, rfl⟩)
  go_ret3
  exact ⟨rfl, Below.refl _ _⟩
set_option maxHeartbeats 2000000 in
theorem cutEq_some (s : ByteArray) (w : World) (a b : List UInt8) (h : splitEq s.data.toList = some (a, b)) (hs : s.size ≤ 140737488355328) :
    Calls Tryz.prog 95 #[.string s, .string ⟨#[61]⟩] w fun e w' => e = .returned (.tuple #[.string ⟨a.toArray⟩, .string ⟨b.toArray⟩, .bool true]) ∧ Below w.heap.size w w' := by
  have hi := (index_split s.data.toList).2 a b h
  have hl := split_back _ a b h
  have hsz : s.size = a.length + (b.length + 1) := by rw [size_len, hl]; simp
  have c1 := fun w => Tryz.stringslite_Index_one s 61 w
  rw [hi] at c1
  have HT : Hid (s.extract 0 a.length = ⟨a.toArray⟩ ∧ s.extract (a.length + 1) s.size = ⟨b.toArray⟩) := by
    rw [ext_take s _ (by omega), ext_drop s _ (by omega), hl]
    refine ⟨by simp, ?_⟩
    rw [List.drop_append]; simp
  obtain ⟨k, hk⟩ : ∃ k, k = a.length := ⟨_, rfl⟩
  rw [← hk] at c1 HT hsz
  have h1 : (k : Int) ≤ (s.size : Int) := by omega
  have h2 : (k : Int) + 1 ≤ (s.size : Int) := by omega
  have hw : IntKind.i64.wrap ((k : Int) + 1) = (k : Int) + 1 := by rw [IntKind.wrap_i64]; omega
  have ht : ((k : Int) + 1).toNat = k + 1 := by omega
  clear h hi hl hk hsz
  go_enter Tryz.func95, Tryz.ntmps95
  go_wp2_with (go_at_call 72; refine (c1 _).mono ?_; rintro e w' ⟨rfl, rfl⟩)
  go_quiet (fail)
  go_wp2
  go_ret3
  exact ⟨ret_v (by rw [← HT.out.1, ← HT.out.2]; rfl), b_drewN (Below.refl _ _) _⟩
theorem scut_none (s : ByteArray) (w : World) (h : splitEq s.data.toList = none) :
    Calls Tryz.prog 75 #[.string s, .string ⟨#[61]⟩] w fun e w' => e = .returned (.tuple #[.string s, .string ⟨#[]⟩, .bool false]) ∧ Below w.heap.size w w' := by
  go_enter Tryz.func75, Tryz.ntmps75
  go_wp2_with (go_at_call 95; refine (cutEq_none s _ h).mono ?_; rintro e w' ⟨rfl, hB⟩)
  go_ret3
  exact ⟨rfl, hB⟩
theorem scut_some (s : ByteArray) (w : World) (a b : List UInt8) (h : splitEq s.data.toList = some (a, b)) (hs : s.size ≤ 140737488355328) :
    Calls Tryz.prog 75 #[.string s, .string ⟨#[61]⟩] w fun e w' => e = .returned (.tuple #[.string ⟨a.toArray⟩, .string ⟨b.toArray⟩, .bool true]) ∧ Below w.heap.size w w' := by
  go_enter Tryz.func75, Tryz.ntmps75
  go_wp2_with (go_at_call 95; refine (cutEq_some s _ a b h hs).mono ?_; rintro e w' ⟨rfl, hB⟩)
  go_ret3
  exact ⟨rfl, hB⟩
theorem bool39 {c : UInt8} (h : c = 39) : ((c.toNat : Int) == 39) = true := by subst h; rfl
theorem bool39n {c : UInt8} (h : ¬ c = 39) : ((c.toNat : Int) == 39) = false := by simpa using ne39 h
theorem bool44 {c : UInt8} (h : c = 44) : ((c.toNat : Int) == 44) = true := by subst h; rfl
theorem bool44n {c : UInt8} (h : ¬ c = 44) : ((c.toNat : Int) == 44) = false := by
  have : ¬ (c.toNat : Int) = 44 := fun e => h (UInt8.toNat_inj.1 (by show c.toNat = 44; omega))
  simpa using this
def cutV (x : List UInt8 × Option (List UInt8)) : Value := .tuple #[.string ⟨x.1.toArray⟩, .string ⟨(x.2.getD []).toArray⟩, .bool x.2.isSome]
theorem cutW_39 (q : Bool) (r : List UInt8) : cutW q (39 :: r) = (39 :: (cutW (!q) r).1, (cutW (!q) r).2) := by simp [cutW]
theorem cutW_44 (r : List UInt8) : cutW false (44 :: r) = ([], some r) := by simp [cutW]
theorem cutW_no {q : Bool} {c : UInt8} (r : List UInt8) (h : ¬ c = 39) (h2 : ¬ (c = 44 ∧ q = false)) : cutW q (c :: r) = (c :: (cutW q r).1, (cutW q r).2) := by simp only [cutW]; rw [if_neg h, if_neg h2]
def CW (l : List UInt8) (k : Nat) (q : Bool) : Prop := cutW false l = (l.take k ++ (cutW q (l.drop k)).1, (cutW q (l.drop k)).2)
theorem cw_next {s : ByteArray} {k : Nat} (h : k < s.size) {q q' : Bool} (hc : CW s.data.toList k q) (hq : cutW q (s[k] :: s.data.toList.drop (k + 1)) = (s[k] :: (cutW q' (s.data.toList.drop (k + 1))).1, (cutW q' (s.data.toList.drop (k + 1))).2)) : CW s.data.toList (k + 1) q' := by
  unfold CW at *
  rw [hc, drop_cons s k h, hq, take_snoc s k h]; simp
set_option maxHeartbeats 4000000 in
set_option maxRecDepth 100000 in
theorem cutWord_any (s : ByteArray) (w : World) (hs : s.size ≤ 140737488355328) :
    Calls Tryz.prog 53 #[.string s] w fun e w' => e = .returned (cutV (cutW false s.data.toList)) ∧ Below w.heap.size w w' := by
  go_enter Tryz.func53, Tryz.ntmps53
  go_wp2
  go_loopw [5, 9] (fun q i wr => ∃ (k : Nat) (qb : Bool), k ≤ s.size ∧ i = .int .i64 k ∧ q = .bool qb ∧ CW s.data.toList k qb ∧ Below w.heap.size w wr) (fun _ i _ => s.size - (intOf i).toNat)
  case atStart => exact ⟨0, false, Nat.zero_le _, rfl, rfl, rfl, Below.refl _ _⟩
  case round =>
    obtain ⟨k, qb, hk, rfl, rfl, hc, hB⟩ := hrel
    have HC : Hid (CW s.data.toList k qb) := hc
    clear hc
    by_cases hlt : k < s.size
    · by_cases h39 : s[k] = 39
      · have hb := bool39 h39
        have H : Hid (CW s.data.toList (k + 1) (!qb)) := cw_next hlt HC.out (by rw [h39, cutW_39])
        clear h39 HC
        cases qb
        all_goals
          go_wp2
          go_roundw
          case rel => exact ⟨k + 1, _, by omega, by go_num, rfl, H.out, hB⟩
          case measure => simp [intOf]; omega
      · have hb := bool39n h39
        by_cases h44 : s[k] = 44
        · have hb2 := bool44 h44
          cases qb
          · have H : Hid (cutW false s.data.toList = (s.data.toList.take k, some (s.data.toList.drop (k + 1)))) := by
              have := HC.out
              unfold CW at this
              show _ = _
              rw [this, drop_cons s k hlt, h44, cutW_44]; simp
            have HT : Hid (s.extract 0 k = ⟨(s.data.toList.take k).toArray⟩ ∧ s.extract (k + 1) s.size = ⟨(s.data.toList.drop (k + 1)).toArray⟩) := ⟨ext_take s k (by omega), ext_drop s (k + 1) (by omega)⟩
            have h1 : (k : Int) ≤ (s.size : Int) := by omega
            have h2 : (k : Int) + 1 ≤ (s.size : Int) := by omega
            have hw : IntKind.i64.wrap ((k : Int) + 1) = (k : Int) + 1 := by rw [IntKind.wrap_i64]; omega
            have ht : ((k : Int) + 1).toNat = k + 1 := by omega
            clear h39 h44 HC
            go_wp2_with fail
            go_quiet (fail)
            go_wp2
            go_ret3
            exact ⟨ret_v (by rw [H.out]; unfold cutV; simp only [Option.getD_some, Option.isSome_some]; rw [← HT.out.1, ← HT.out.2]; rfl), b_drewN hB _⟩
          · have H : Hid (CW s.data.toList (k + 1) true) := cw_next hlt HC.out (cutW_no _ h39 (fun x => by cases x.2))
            clear h39 h44 HC
            go_wp2
            go_roundw
            case rel => exact ⟨k + 1, true, by omega, by go_num, rfl, H.out, hB⟩
            case measure => simp [intOf]; omega
        · have hb2 := bool44n h44
          have H : Hid (CW s.data.toList (k + 1) qb) := cw_next hlt HC.out (cutW_no _ h39 (fun x => h44 x.1))
          clear h39 h44 HC
          cases qb
          all_goals
            go_wp2
            go_roundw
            case rel => exact ⟨k + 1, _, by omega, by go_num, rfl, H.out, hB⟩
            case measure => simp [intOf]; omega
    · have H : Hid (cutW false s.data.toList = (s.data.toList, none)) := by
        have := HC.out
        unfold CW at this
        show _ = _
        rw [this, drop_end s k hlt]
        have e : s.data.toList.take k = s.data.toList := List.take_of_length_le (by rw [← size_len]; omega)
        rw [e]; simp [cutW]
      clear HC
      go_wp2
      go_ret3
      exact ⟨ret_v (by rw [H.out]; rfl), hB⟩
end Go.Proofs.YteabdlandbmdaaaGreatDoor

/-
  The walk of record.parseProp.
-/
namespace Go.Proofs.YteabdlandbmdaaaGreatDoor
open Go.RowKit
set_option linter.unusedVariables false
set_option linter.unusedSimpArgs false

def propV : Option Pr → Value
  | none => .tuple #[.agg #[.string ⟨#[]⟩, .int .i64 0, .int .i64 0, .string ⟨#[]⟩], .bool false]
  | some p => .tuple #[p.one, .bool true]

theorem kept4 {w W1 : World} {v0 v1 v2 v3 : Value} {t : TypeId} (hB : Below (w.alloc (.cells #[v0, v1, v2, v3] t)).heap.size (w.alloc (.cells #[v0, v1, v2, v3] t)) W1) :
    w.heap.size < W1.heap.size ∧ (W1.cell? ⟨w.heap.size, 0, none⟩ = some v0 ∧ W1.cell? ⟨w.heap.size, 1, none⟩ = some v1 ∧ W1.cell? ⟨w.heap.size, 2, none⟩ = some v2 ∧ W1.cell? ⟨w.heap.size, 3, none⟩ = some v3) ∧
      (W1.frozen? ⟨w.heap.size, 0, none⟩ = false ∧ W1.frozen? ⟨w.heap.size, 1, none⟩ = false ∧ W1.frozen? ⟨w.heap.size, 2, none⟩ = false ∧ W1.frozen? ⟨w.heap.size, 3, none⟩ = false) := by
  refine ⟨Nat.lt_of_lt_of_le (by simp) hB.size, ⟨?_, ?_, ?_, ?_⟩, ⟨?_, ?_, ?_, ?_⟩⟩
  · rw [hB.cell (p := ⟨w.heap.size, 0, none⟩) (by simp)]; simp
  · rw [hB.cell (p := ⟨w.heap.size, 1, none⟩) (by simp)]; simp
  · rw [hB.cell (p := ⟨w.heap.size, 2, none⟩) (by simp)]; simp
  · rw [hB.cell (p := ⟨w.heap.size, 3, none⟩) (by simp)]; simp
  · rw [hB.frozen (p := ⟨w.heap.size, 0, none⟩) (by simp)]; simp
  · rw [hB.frozen (p := ⟨w.heap.size, 1, none⟩) (by simp)]; simp
  · rw [hB.frozen (p := ⟨w.heap.size, 2, none⟩) (by simp)]; simp
  · rw [hB.frozen (p := ⟨w.heap.size, 3, none⟩) (by simp)]; simp
theorem set4 {w W : World} (hB : Below w.heap.size w W) (a b c d : Value) : Below w.heap.size w ((((W.setCell ⟨w.heap.size, 0, none⟩ a).setCell ⟨w.heap.size, 1, none⟩ b).setCell ⟨w.heap.size, 2, none⟩ c).setCell ⟨w.heap.size, 3, none⟩ d) :=
  (((hB.setCell (by simp) _).setCell (by simp) _).setCell (by simp) _).setCell (by simp) _

set_option maxHeartbeats 4000000 in
set_option maxRecDepth 100000 in
theorem parseProp_any (s : ByteArray) (w : World) (hs : s.size ≤ 140737488355328) :
    Calls Tryz.prog 54 #[.string s] w fun e w' => e = .returned (propV (propL s.data.toList)) ∧ Below w.heap.size w w' := by
  have hB0 : Below w.heap.size w (w.alloc (.cells #[.string ⟨#[]⟩, .int .i64 0, .int .i64 0, .string ⟨#[]⟩] 33)) := b_alloc (Below.refl _ _) _
  cases hsp : splitEq s.data.toList with
  | none =>
    have H : Hid (propL s.data.toList = none) := by
      show _ = _
      unfold propL; rw [hsp]
    have c1 := scut_none s (w.alloc (.cells #[.string ⟨#[]⟩, .int .i64 0, .int .i64 0, .string ⟨#[]⟩] 33)) hsp
    clear hsp
    go_enter Tryz.func54, Tryz.ntmps54
    go_wp2_with (go_at_call 75; refine c1.mono ?_; rintro e W1 ⟨rfl, hB1⟩; obtain ⟨hz, ⟨g0, g1, g2, g3⟩, k0, k1, k2, k3⟩ := kept4 hB1)
    exact bodyPost_ret (v := .tuple #[.agg #[.string ⟨#[]⟩, .int .i64 0, .int .i64 0, .string ⟨#[]⟩], .bool false]) (by simp [results, Tryz.results54, go_sem, g0, g1, g2, g3, hz]) rfl ⟨ret_v (by rw [H.out]; rfl), set4 (on1B hB0 hB1) _ _ _ _⟩
  | some x =>
    obtain ⟨a, b⟩ := x
    have c1 := scut_some s (w.alloc (.cells #[.string ⟨#[]⟩, .int .i64 0, .int .i64 0, .string ⟨#[]⟩] 33)) a b hsp hs
    have hl := split_back _ a b hsp
    have hsz : a.length + (b.length + 1) ≤ 140737488355328 := by
      have := size_len s
      rw [hl] at this; simp at this; omega
    have cn := fun w => name_any ⟨a.toArray⟩ w (by show a.toArray.size ≤ maxLen; simp [maxLen]; omega)
    have cp := fun w => parse_any ⟨b.toArray⟩ w (by show b.toArray.size ≤ _; simp; omega)
    have ea : (⟨a.toArray⟩ : ByteArray).data.toList = a := by simp
    have eb : (⟨b.toArray⟩ : ByteArray).data.toList = b := by simp
    rw [ea] at cn
    rw [eb] at cp
    by_cases h1 : nErr a = 0
    · rw [h1, errV_0] at cn
      by_cases h2 : (parseL b).1 = 0
      · have H : Hid (propL s.data.toList = some (mkPr a b)) := by
          show _ = _
          unfold propL; rw [hsp]; simp only [h1, h2, and_self, if_true]
        rw [h2, resV_0] at cp
        obtain ⟨t, n, l, he⟩ : ∃ t n l, parseL b = (0, t, n, l) := ⟨(parseL b).2.1, (parseL b).2.2.1, (parseL b).2.2.2, by rw [← h2]⟩
        have HM : Hid ((mkPr a b).one = .agg #[.string ⟨a.toArray⟩, .int .i64 t, .int .i64 n, .string ⟨l.toArray⟩]) := by
          show _ = _
          unfold Pr.one mkPr; rw [he]
        rw [he] at cp
        clear hsp hl h1 h2 ea eb he hsz
        go_enter Tryz.func54, Tryz.ntmps54
        go_wp2_with (go_at_call 75; refine c1.mono ?_; rintro e W1 ⟨rfl, hB1⟩; refine Hid.out ?_)
        refine Lib.hid ?_
        go_wp2_with (go_at_call 40; refine (cn _).mono ?_; rintro e W1 ⟨rfl, rfl⟩; refine Hid.out ?_)
        refine Lib.hid ?_
        go_wp2_with (go_at_call 76; refine (cp _).mono ?_; rintro e W2 ⟨rfl, hB2⟩; refine Hid.out ?_)
        refine Lib.hid ?_
        have hB3 := hB1.trans (hB2.mono hB1.size)
        obtain ⟨hz, ⟨g0, g1, g2, g3⟩, k0, k1, k2, k3⟩ := kept4 hB3
        clear c1 cn cp
        go_wp2
        exact bodyPost_ret (v := .tuple #[.agg #[.string ⟨a.toArray⟩, .int .i64 t, .int .i64 n, .string ⟨l.toArray⟩], .bool true]) (by simp [results, Tryz.results54, go_sem, g0, g1, g2, g3, hz]) rfl ⟨ret_v (by rw [H.out]; show _ = Value.tuple #[(mkPr a b).one, .bool true]; rw [HM.out]), b_alloc (set4 (on1B hB0 hB3) _ _ _ _) _⟩
      · have H : Hid (propL s.data.toList = none) := by
          show _ = _
          unfold propL; rw [hsp]; simp only [h2, and_false, if_false]
        rw [resV_ne h2] at cp
        generalize (parseL b).1 = ee at cp
        clear hsp hl h1 h2 ea eb hsz
        go_enter Tryz.func54, Tryz.ntmps54
        go_wp2_with (go_at_call 75; refine c1.mono ?_; rintro e W1 ⟨rfl, hB1⟩; refine Hid.out ?_)
        refine Lib.hid ?_
        go_wp2_with (go_at_call 40; refine (cn _).mono ?_; rintro e W1 ⟨rfl, rfl⟩; refine Hid.out ?_)
        refine Lib.hid ?_
        go_wp2_with (go_at_call 76; refine (cp _).mono ?_; rintro e W2 ⟨rfl, hB2⟩; refine Hid.out ?_)
        refine Lib.hid ?_
        have hB3 := hB1.trans (hB2.mono hB1.size)
        obtain ⟨hz, ⟨g0, g1, g2, g3⟩, k0, k1, k2, k3⟩ := kept4 hB3
        clear c1 cn cp
        go_wp2
        exact bodyPost_ret (v := .tuple #[.agg #[.string ⟨#[]⟩, .int .i64 0, .int .i64 0, .string ⟨#[]⟩], .bool false]) (by simp [results, Tryz.results54, go_sem, g0, g1, g2, g3, hz]) rfl ⟨ret_v (by rw [H.out]; rfl), b_alloc (set4 (on1B hB0 hB3) _ _ _ _) _⟩
    · have H : Hid (propL s.data.toList = none) := by
        show _ = _
        unfold propL; rw [hsp]; simp only [h1, false_and, if_false]
      rw [errV_ne h1] at cn
      clear hsp hl h1 ea eb cp hsz
      go_enter Tryz.func54, Tryz.ntmps54
      go_wp2_with (go_at_call 75; refine c1.mono ?_; rintro e W1 ⟨rfl, hB1⟩; refine Hid.out ?_)
      refine Lib.hid ?_
      obtain ⟨hz, ⟨g0, g1, g2, g3⟩, k0, k1, k2, k3⟩ := kept4 hB1
      go_wp2_with (go_at_call 40; refine (cn _).mono ?_; rintro e W1 ⟨rfl, rfl⟩)
      exact bodyPost_ret (v := .tuple #[.agg #[.string ⟨#[]⟩, .int .i64 0, .int .i64 0, .string ⟨#[]⟩], .bool false]) (by simp [results, Tryz.results54, go_sem, g0, g1, g2, g3, hz]) rfl ⟨ret_v (by rw [H.out]; rfl), set4 (on1B hB0 hB1) _ _ _ _⟩
end Go.Proofs.YteabdlandbmdaaaGreatDoor
