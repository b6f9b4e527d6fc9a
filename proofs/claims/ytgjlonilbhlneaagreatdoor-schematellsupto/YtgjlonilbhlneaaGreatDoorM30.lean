/-
  The walk of kinref1.Cut, where quotes do not count.
-/
import Derived.Test.YtgjlonilbhlneaaGreatDoorM29
import Derived.Test.YtgjlonilbhlneaaGreatDoorM21
import Derived.Test.YtgjlonilbhlneaaGreatDoorM22
namespace Go.Proofs.YtgjlonilbhlneaaGreatDoor
open Go.RowKit
set_option linter.unusedVariables false
set_option linter.unusedSimpArgs false

def cutG (c : UInt8) : Nm → Nm → List Nm
  | cur, [] => [cur]
  | cur, x :: r => if (x == c) = true then cur :: cutG c [] r else cutG c (cur ++ [x]) r
def cutR (c : UInt8) (l : Nm) : List Nm := cutG c [] l
def pce (l : Nm) (f k : Nat) : Nm := (l.take k).drop f
theorem bs_mid (l : Nm) (f k : Nat) : (bs l).extract f k = bs (pce l f k) := by
  rw [← bs_self ((bs l).extract f k), Lib.toList_data]
  congr 1
  rw [ByteArray.data_extract, Array.toList_extract, bs_data]
  simp only [List.extract, pce]
  rw [List.drop_take]
theorem pce_next {l : Nm} {f k : Nat} {x : UInt8} (hx : l[k]? = some x) (hf : f ≤ k) : pce l f (k + 1) = pce l f k ++ [x] := by
  unfold pce
  rw [List.take_add_one, hx]
  have : k ≤ l.length := Nat.le_of_lt (List.getElem?_eq_some_iff.1 hx).1
  rw [List.drop_append_of_le_length (by simp; omega)]
  rfl
theorem pce_new (l : Nm) (k : Nat) : pce l k k = [] := by
  unfold pce; apply List.drop_eq_nil_of_le; simp; omega
def CutI (c : UInt8) (l : Nm) (base : Nat) (w : World) (out frm inn i : Value) (wr : World) : Prop :=
  ∃ (k f : Nat) (O : List Nm), k ≤ l.length ∧ f ≤ k ∧ O.length ≤ k ∧ i = .int .i64 k ∧ frm = .int .i64 f ∧ inn = .bool false ∧ cutR c l = O ++ cutG c (pce l f k) (l.drop k) ∧ wr.ownsRow base 9 1 out O.length (cellsS O) ∧ Below base w wr
set_option maxHeartbeats 4000000 in
set_option maxRecDepth 100000 in
theorem rcut_any (c : UInt8) (l : Nm) (w : World) (hl : l.length ≤ 10000000) :
    Calls Tryz.prog 30 #[.string (bs l), .int .u8 (c.toNat : Int), .bool false] w fun e w' => ∃ v, e = .returned v ∧ w'.ownsRow w.heap.size 9 1 v (cutR c l).length (cellsS (cutR c l)) ∧ Below w.heap.size w w' := by
  obtain ⟨i9, hi9, hz90, hz91, hz92⟩ := info_parts info9
  have hsz : (bs l).size = l.length := bs_size l
  have hl2 : ((bs l).size : Int) ≤ 10000000 := by omega
  go_enter Tryz.func30, Tryz.ntmps30
  go_wp2
  go_loopw [7, 8, 9, 10] (fun s7 s8 s9 s10 wr => CutI c l w.heap.size w s7 s8 s9 s10 wr) (fun _ _ _ s10 _ => l.length - (intOf s10).toNat)
  case atStart => exact ⟨0, 0, [], Nat.zero_le _, Nat.le_refl _, Nat.le_refl _, rfl, rfl, rfl, rfl, World.ownsRow_nil _ _ _ _, Below.refl _ _⟩
  case round =>
    obtain ⟨k, f, O, hk, hf, hO, rfl, rfl, rfl, he, hown, hB⟩ := hrel
    have HQ : Hid (cutR c l = O ++ cutG c (pce l f k) (l.drop k) ∧ wr.ownsRow w.heap.size 9 1 u7 O.length (cellsS O) ∧ Below w.heap.size w wr) := ⟨he, hown, hB⟩
    clear he hown hB
    by_cases hlt : k < (bs l).size
    · obtain ⟨x, hx⟩ : ∃ x, x = (bs l)[k] := ⟨_, rfl⟩
      have hxl : l[k]? = some x := by
        have h1 : k < l.length := by omega
        rw [hx, List.getElem?_eq_getElem h1]
        congr 1
      have HX : Hid (l[k]? = some x ∧ l.drop k = x :: l.drop (k + 1)) := ⟨hxl, dropK hxl⟩
      clear hxl
      cases h39 : ((((bs l)[k]).toNat : Int) == 39)
      all_goals
        cases hc : ((((bs l)[k]).toNat : Int) == (c.toNat : Int))
        · have HR : Hid (cutR c l = O ++ cutG c (pce l f (k + 1)) (l.drop (k + 1))) := by
            have hxc : (x == c) = false := by
              rw [← hx] at hc
              simp only [beq_eq_false_iff_ne, ne_eq, Int.natCast_inj, UInt8.toNat_inj] at hc ⊢
              exact hc
            show _ = _
            rw [HQ.out.1, HX.out.2]
            conv => lhs; unfold cutG
            rw [hxc, if_neg (by decide), pce_next HX.out.1 hf]
          clear HX hx
          go_wp2
          go_roundw
          case rel => exact ⟨k + 1, f, O, by omega, by omega, by omega, by go_num, rfl, rfl, HR.out, HQ.out.2.1, HQ.out.2.2⟩
          case measure => simp [intOf]; omega
        · have HR : Hid (cutR c l = (O ++ [pce l f k]) ++ cutG c (pce l (k + 1) (k + 1)) (l.drop (k + 1))) := by
            have hxc : (x == c) = true := by
              rw [← hx] at hc
              simp only [beq_iff_eq, Int.natCast_inj, UInt8.toNat_inj] at hc ⊢
              exact hc
            show _ = _
            rw [HQ.out.1, HX.out.2]
            conv => lhs; unfold cutG
            rw [hxc, if_pos rfl, pce_new, List.append_assoc]; rfl
          have HA : Hid ((wr.alloc (.cells #[.string (bs (pce l f k))] 9)).ownsRow w.heap.size 9 1 u7 O.length (cellsS O) ∧ Below w.heap.size w (wr.alloc (.cells #[.string (bs (pce l f k))] 9))) := ⟨HQ.out.2.1.alloc _, b_alloc HQ.out.2.2 (Nat.le_refl _) _⟩
          have HM : Hid (O.length + 1 ≤ maxLen ∧ (O.length + 1) * 16 ≤ 140737488355328) := by unfold maxLen; exact ⟨by omega, by omega⟩
          have hbm := bs_mid l f k
          have hfk : (f : Int) ≤ (k : Int) := by omega
          clear HX hx HQ
          go_wp2_with (at_builtin; refine wpList_append_own _ rfl (.tmp 35) (.tmp 40) 45 rfl w.heap.size 9 i9 _ 1 16 Tryz.underlying45 hi9 hz90 hz91 hz92 rfl (by decide) u7 O.length (cellsS O) rfl HA.out.1 ⟨wr.heap.size, 0, none⟩ 1 1 [.string (bs (pce l f k))] rfl rfl (new_at _ _ _) (by simp [Value.oneCell']) HM.out.1 HM.out.2 HA.out.2.size ?_; intro v1 w1 hown1 hgrow1 _; refine Hid.out ?_)
          refine Lib.hid ?_
          have HS : Hid (w1.ownsRow w.heap.size 9 1 v1 (O ++ [pce l f k]).length (cellsS (O ++ [pce l f k])) ∧ Below w.heap.size w w1) := by
            refine ⟨?_, HA.out.2.grown hgrow1 HA.out.2.size (fun k hk => ?_)⟩
            · rw [List.length_append, cellsS_app]; exact hown1
            · have := (HA.out.1.lt k hk).1; omega
          clear hown1
          go_wp2
          go_roundw
          case rel => exact ⟨k + 1, k + 1, O ++ [pce l f k], by omega, by omega, by simp; omega, by go_num, by go_num, rfl, HR.out, HS.out.1, HS.out.2⟩
          case measure => simp [intOf]; omega
    · have hke : k = l.length := by omega
      subst hke
      have HR : Hid (cutR c l = O ++ [pce l f l.length]) := by
        show _ = _
        rw [HQ.out.1, List.drop_eq_nil_of_le (Nat.le_refl _)]; rfl
      have HA : Hid ((wr.alloc (.cells #[.string (bs (pce l f l.length))] 9)).ownsRow w.heap.size 9 1 u7 O.length (cellsS O) ∧ Below w.heap.size w (wr.alloc (.cells #[.string (bs (pce l f l.length))] 9))) := ⟨HQ.out.2.1.alloc _, b_alloc HQ.out.2.2 (Nat.le_refl _) _⟩
      have HM : Hid (O.length + 1 ≤ maxLen ∧ (O.length + 1) * 16 ≤ 140737488355328) := by unfold maxLen; exact ⟨by omega, by omega⟩
      have hbm := bs_mid l f l.length
      clear HQ
      go_wp2_with (at_builtin; refine wpList_append_own _ rfl (.tmp 44) (.tmp 48) 45 rfl w.heap.size 9 i9 _ 1 16 Tryz.underlying45 hi9 hz90 hz91 hz92 rfl (by decide) u7 O.length (cellsS O) rfl HA.out.1 ⟨wr.heap.size, 0, none⟩ 1 1 [.string (bs (pce l f l.length))] rfl rfl (new_at _ _ _) (by simp [Value.oneCell']) HM.out.1 HM.out.2 HA.out.2.size ?_; intro v1 w1 hown1 hgrow1 _; refine Hid.out ?_)
      refine Lib.hid ?_
      have HS : Hid (w1.ownsRow w.heap.size 9 1 v1 (cutR c l).length (cellsS (cutR c l)) ∧ Below w.heap.size w w1) := by
        refine ⟨?_, HA.out.2.grown hgrow1 HA.out.2.size (fun k hk => ?_)⟩
        · rw [HR.out, List.length_append, cellsS_app]; exact hown1
        · have := (HA.out.1.lt k hk).1; omega
      clear hown1
      go_wp2
      go_ret
      exact ⟨_, rfl, HS.out.1, HS.out.2⟩
end Go.Proofs.YtgjlonilbhlneaaGreatDoor

/-
  The mathematics of SchemaTells: what kinref1 cuts, calls a word and reads as a number, is what package schema does.
-/
namespace Go.Proofs.YtgjlonilbhlneaaGreatDoor
open Go.RowKit
set_option linter.unusedVariables false
set_option linter.unusedSimpArgs false

theorem cutG_pcs (c : UInt8) : ∀ (l cur a : Nm) (t : List Nm), pcs c l = a :: t → cutG c cur l = (cur ++ a) :: t
  | [], cur, a, t, h => by
    obtain ⟨rfl, rfl⟩ : [] = a ∧ [] = t := by simpa [pcs] using h
    simp [cutG]
  | x :: r, cur, a, t, h => by
    by_cases hx : x = c
    · subst hx
      rw [pcs_hit] at h
      obtain ⟨rfl, rfl⟩ : [] = a ∧ pcs x r = t := by simpa using h
      obtain ⟨a', t', e⟩ := List.exists_cons_of_ne_nil (pcs_ne x r)
      unfold cutG
      rw [if_pos (by simp), cutG_pcs x r [] a' t' e, e]
      simp
    · obtain ⟨a', t', e1, e2⟩ := pcs_miss hx r
      rw [e2] at h
      obtain ⟨rfl, rfl⟩ : x :: a' = a ∧ t' = t := by simpa using h
      unfold cutG
      rw [if_neg (by simpa using hx), cutG_pcs c r (cur ++ [x]) a' t' e1]
      simp
theorem cutR_eq (c : UInt8) (l : Nm) : cutR c l = pcs c l := by
  obtain ⟨a, t, e⟩ := List.exists_cons_of_ne_nil (pcs_ne c l)
  unfold cutR
  rw [cutG_pcs c l [] a t e, e]
  rfl
theorem idxAny_iff (l : Nm) : (0 ≤ Lib.indexAny l [44, 58]) ↔ l.any noW = true := by
  induction l with
  | nil => simp [Lib.indexAny]
  | cons x r ih =>
    have hc : ([44, 58] : List UInt8).contains x = noW x := by
      unfold noW; simp [List.contains_cons]; rfl
    unfold Lib.indexAny
    rw [hc, List.any_cons]
    cases hx : noW x
    · have hg := Lib.indexAny_ge [44, 58] r
      simp only [Bool.false_or, Bool.false_eq_true, if_false]
      rw [← ih]
      by_cases h : Lib.indexAny r [44, 58] = -1
      · simp [h]
      · rw [if_neg (by simpa using h)]
        constructor <;> intro <;> omega
    · simp
theorem wrd_eq (l : Nm) : wrd l = !(badW l) := by
  unfold wrd badW hasP Lib.containsAny
  by_cases h : l = []
  · subst h; rfl
  · rw [if_neg h]
    have h1 : l.isEmpty = false := by simpa using h
    rw [h1, Bool.false_or]
    congr 1
    rw [Bool.eq_iff_iff, decide_eq_true_iff, idxAny_iff]
theorem num_all : ∀ k : Fin 100, numP (Lib.itoa (k.val : Int)) = ((k.val : Int), true) ∧ numB (Lib.itoa (k.val : Int)) = ((k.val : Int), true) := by decide +kernel
theorem num_one : ∀ i : Fin 10, (numP [UInt8.ofNat (48 + i.val)]).2 = true := by decide +kernel
theorem num_two : ∀ i j : Fin 10, i.val = 0 ∨ (numP [UInt8.ofNat (48 + i.val), UInt8.ofNat (48 + j.val)]).2 = true := by decide +kernel
theorem dg_of {c : UInt8} (h : noDg c = false) : ∃ i : Fin 10, c = UInt8.ofNat (48 + i.val) := by
  unfold noDg at h
  have h' : ¬ (c.toNat < 48 ∨ 57 < c.toNat) := by simpa using h
  refine ⟨⟨c.toNat - 48, by omega⟩, ?_⟩
  rw [← UInt8.toNat_inj]
  simp only [UInt8.toNat_ofNat']
  omega
theorem numP_top {l : Nm} (h : (numP l).2 = true) : (numP l).1 ≤ 99 := by
  unfold numP at *
  split at h
  · split at h
    · rename_i hq
      rw [if_pos hq]
      exact hq.1.2
    · cases h
  · cases h
theorem num_same {l : Nm} (h : (numP l).2 = true) : numB l = numP l := by
  obtain ⟨h1, h2⟩ := numP_itoa h
  have h3 := numP_top h
  obtain ⟨v, hv⟩ : ∃ v, v = (numP l).1 := ⟨_, rfl⟩
  rw [← hv] at h1 h2 h3
  obtain ⟨k, rfl⟩ : ∃ k : Nat, v = k := ⟨v.toNat, by omega⟩
  obtain ⟨a, b⟩ := num_all ⟨k, by omega⟩
  simp only at a b
  rw [← h1, a, b]
theorem num_back {l : Nm} (h : (numB l).2 = true) : (numP l).2 = true := by
  unfold numB at h
  split at h
  · cases h
  · rename_i hn
    split at h
    · cases h
    · rename_i hd
      have hd' : hasP noDg l = false := by simpa using hd
      unfold hasP at hd'
      rcases l with _ | ⟨c, _ | ⟨d, _ | ⟨e, r⟩⟩⟩
      · exact absurd (.inl rfl) hn
      · simp only [List.any_cons, List.any_nil, Bool.or_false] at hd'
        obtain ⟨i, rfl⟩ := dg_of hd'
        exact num_one i
      · simp only [List.any_cons, List.any_nil, Bool.or_false, Bool.or_eq_false_iff] at hd'
        obtain ⟨i, rfl⟩ := dg_of hd'.1
        obtain ⟨j, rfl⟩ := dg_of hd'.2
        rcases num_two i j with h0 | h0
        · exact absurd (.inr (.inr ⟨by rw [h0]; rfl, by simp⟩)) hn
        · exact h0
      · exact absurd (.inr (.inl (by simp))) hn
theorem num_ok (l : Nm) : (numB l).2 = (numP l).2 := by
  rw [Bool.eq_iff_iff]
  exact ⟨num_back, fun h => by rw [num_same h]; exact h⟩
end Go.Proofs.YtgjlonilbhlneaaGreatDoor

/-
  The mathematics of SchemaTells: what kinref1 reads as a field is what package schema does.
-/
namespace Go.Proofs.YtgjlonilbhlneaaGreatDoor
open Go.RowKit
set_option linter.unusedVariables false
set_option linter.unusedSimpArgs false

def mkR (x : Nm) : Nm × Bool × Bool := if x.getLast? = some 42 then (x.dropLast, true, true) else if x.getLast? = some 33 then (x.dropLast, true, false) else (x, false, false)
def rFd (l : Nm) : Option Fd := match pcs 58 l with
  | [a, x] => if wrd a = true ∧ ¬ tyO (mkR x).1 = 0 then some ⟨a, tyO (mkR x).1, (mkR x).2.1, (mkR x).2.2⟩ else none
  | _ => none
theorem hs_iff (x : Nm) (c : UInt8) : Lib.hasSuffix x [c] = true ↔ x.getLast? = some c := by
  unfold Lib.hasSuffix
  rw [List.isSuffixOf_iff_suffix, List.getLast?_eq_some_iff]
  constructor
  · rintro ⟨y, rfl⟩; exact ⟨y, rfl⟩
  · rintro ⟨y, rfl⟩; exact ⟨y, rfl⟩
theorem ts_yes {x : Nm} {c : UInt8} (h : x.getLast? = some c) : Lib.trimSuffix x [c] = x.dropLast := by
  unfold Lib.trimSuffix
  rw [if_pos ((hs_iff x c).2 h), List.dropLast_eq_take]
  rfl
theorem ts_no {x : Nm} {c : UInt8} (h : ¬ x.getLast? = some c) : Lib.trimSuffix x [c] = x := by
  unfold Lib.trimSuffix
  rw [if_neg (fun e => h ((hs_iff x c).1 e))]
theorem mk_eq (l : Nm) : mkR (restF l) = (typF l, mustF l, keyF l) := by
  have hk : keyF l = Lib.hasSuffix (restF l) [42] := rfl
  unfold mkR typF mustF
  by_cases h1 : (restF l).getLast? = some 42
  · have h2 : keyF l = true := by rw [hk]; exact (hs_iff _ _).2 h1
    rw [if_pos h1, h2, if_pos rfl, if_pos rfl, ts_yes h1]
  · have h2 : keyF l = false := by
      rw [hk, Bool.eq_false_iff]; exact fun e => h1 ((hs_iff _ _).1 e)
    rw [if_neg h1, h2, ts_no h1]
    simp only [Bool.false_eq_true, if_false]
    by_cases h3 : (restF l).getLast? = some 33
    · rw [if_pos h3, ts_yes h3, (hs_iff _ _).2 h3]
    · rw [if_neg h3, ts_no h3]
      have : Lib.hasSuffix (restF l) [33] = false := by rw [Bool.eq_false_iff]; exact fun e => h3 ((hs_iff _ _).1 e)
      rw [this]
theorem tyO_no {y : Nm} (h : ¬ tyO y = 0) : (58 : UInt8) ∉ y := by
  unfold tyO at h
  split at h
  · rename_i e; rw [e]; decide
  · split at h
    · rename_i e; rw [e]; decide
    · split at h
      · rename_i e; rw [e]; decide
      · exact absurd rfl h
theorem mk_no {x : Nm} (h : ¬ tyO (mkR x).1 = 0) : (58 : UInt8) ∉ x := by
  have h1 := tyO_no h
  have key : ∀ c : UInt8, c ≠ 58 → x.getLast? = some c → (58 : UInt8) ∉ x.dropLast → (58 : UInt8) ∉ x := fun c hc hl hd hm => by
    obtain ⟨y, rfl⟩ := List.getLast?_eq_some_iff.1 hl
    rw [List.dropLast_concat] at hd
    rcases List.mem_append.1 hm with h | h
    · exact hd h
    · rw [List.mem_singleton] at h; exact hc h.symm
  unfold mkR at h1
  split at h1
  · rename_i e; exact key 42 (by decide) e h1
  · split at h1
    · rename_i e; exact key 33 (by decide) e h1
    · exact h1
theorem fd_same (l : Nm) : rFd l = if fdOk l = true then some (fdOf l) else none := by
  have he : fdOk l = (wrd (Lib.cut l [58]).1 && !(tyO (mkR (restF l)).1 == 0)) := by
    unfold fdOk areN
    rw [mk_eq, wrd_eq]
    simp
  have hf : fdOf l = ⟨(Lib.cut l [58]).1, tyO (mkR (restF l)).1, (mkR (restF l)).2.1, (mkR (restF l)).2.2⟩ := by
    rw [mk_eq]; rfl
  by_cases hm : (58 : UInt8) ∈ l
  · obtain ⟨a, s, rfl, ha⟩ := List.eq_append_cons_of_mem hm
    have hc := cut_app s ha
    have hr : restF (a ++ 58 :: s) = s := by unfold restF; rw [hc]
    rw [he, hf, hr, hc]
    unfold rFd
    rw [pcs_app s ha]
    by_cases hs : (58 : UInt8) ∈ s
    · obtain ⟨a', s', rfl, ha'⟩ := List.eq_append_cons_of_mem hs
      obtain ⟨b, t, e⟩ := List.exists_cons_of_ne_nil (pcs_ne 58 s')
      rw [pcs_app s' ha', e]
      have : tyO (mkR (a' ++ 58 :: s')).1 = 0 := Classical.byContradiction fun h => mk_no h hs
      rw [this]
      simp
    · rw [pcs_one hs]
      simp only [Bool.and_eq_true, Bool.not_eq_true', beq_eq_false_iff_ne, ne_eq]
  · have hc : Lib.cut l [58] = (l, [], false) := by
      by_cases h0 : 0 ≤ Lib.index l [58]
      · have := cut_found h0
        exact absurd (by rw [← this]; simp) hm
      · unfold Lib.cut; rw [if_neg h0]
    have hr : restF l = [] := by unfold restF; rw [hc]
    rw [he, hr]
    unfold rFd
    rw [pcs_one hm]
    have : tyO (mkR []).1 = 0 := by decide
    rw [this]
    simp
end Go.Proofs.YtgjlonilbhlneaaGreatDoor

/-
  The mathematics of SchemaTells: what kinref1 reads of a line is what package schema does.
-/
namespace Go.Proofs.YtgjlonilbhlneaaGreatDoor
open Go.RowKit
set_option linter.unusedVariables false
set_option linter.unusedSimpArgs false

def rBd : List Nm → Option Bd
  | [k, a, b, c, x, y] => if ((k == wBond) && wrd a && wrd b && wrd c && (numB x).2 && ((y == wAny) || (numB y).2)) = true then some ⟨a, b, c, (numB x).1, if (y == wAny) = true then -1 else (numB y).1⟩ else none
  | _ => none
def rKd (Wd : List Nm) (B : List Bd) : Option (Nm × List Nm × List Fd) := match kdOf Wd with
  | none => none
  | some q => if (B.isEmpty && wrd q.1 && q.2.1.all wrd && q.2.2.all fun l => (rFd l).isSome) = true then some (q.1, q.2.1, q.2.2.filterMap rFd) else none
theorem areN_all (L : List Nm) : areN L = L.all wrd := by
  unfold areN
  induction L with
  | nil => rfl
  | cons x r ih =>
    rw [List.any_cons, List.all_cons, Bool.not_or, ih, wrd_eq]
theorem fd_some (l : Nm) : (rFd l).isSome = fdOk l := by
  rw [fd_same]
  cases fdOk l <;> rfl
theorem fd_map (ls : List Nm) (h : ls.all fdOk = true) : ls.filterMap rFd = ls.map fdOf := by
  induction ls with
  | nil => rfl
  | cons x r ih =>
    rw [List.all_cons, Bool.and_eq_true] at h
    have e : rFd x = some (fdOf x) := by rw [fd_same, if_pos h.1]
    rw [List.filterMap_cons_some e, List.map_cons, ih h.2]
theorem kd_same (Wd : List Nm) (B : List Bd) : rKd Wd B = (kdLine Wd B).map fun q => (q.1, q.2.1, q.2.2.map fdOf) := by
  unfold rKd kdLine
  cases h : kdOf Wd with
  | none => rfl
  | some q =>
    have e1 : (q.2.2.all fun l => (rFd l).isSome) = q.2.2.all fdOk := by
      congr 1; funext l; exact fd_some l
    have e2 : (B.isEmpty && wrd q.1 && q.2.1.all wrd && q.2.2.all fun l => (rFd l).isSome) = (kdGood q && B.isEmpty) := by
      unfold kdGood
      rw [areN_all, areN_all, e1, List.all_cons, List.all_nil, Bool.and_true]
      cases B.isEmpty <;> simp
    simp only [e2]
    by_cases hg : (kdGood q && B.isEmpty) = true
    · rw [if_pos hg, if_pos hg]
      have hf : q.2.2.all fdOk = true := by
        unfold kdGood at hg
        simp only [Bool.and_eq_true] at hg
        exact hg.1.2
      rw [fd_map _ hf]
      rfl
    · rw [if_neg hg, if_neg hg]
      rfl
theorem bd_same (Wd : List Nm) : rBd Wd = if (bdOf Wd).2 = true then some (bdOf Wd).1 else none := by
  rcases Wd with _ | ⟨k, _ | ⟨a, _ | ⟨b, _ | ⟨c, _ | ⟨x, _ | ⟨y, _ | ⟨z, r⟩⟩⟩⟩⟩⟩⟩
  all_goals try rfl
  have e : bdOf [k, a, b, c, x, y] = if (k == wBond && areN [a, b, c]) = true then (⟨a, b, c, (numP x).1, if (y == wAny) = true then -1 else (numP y).1⟩, (numP x).2 && (if (y == wAny) = true then true else (numP y).2)) else (bdZ, false) := rfl
  have ea : areN [a, b, c] = (wrd a && wrd b && wrd c) := by
    rw [areN_all]; simp [Bool.and_assoc]
  have er : rBd [k, a, b, c, x, y] = if ((k == wBond) && wrd a && wrd b && wrd c && (numB x).2 && ((y == wAny) || (numB y).2)) = true then some ⟨a, b, c, (numB x).1, if (y == wAny) = true then -1 else (numB y).1⟩ else none := rfl
  rw [er, e, ea, num_ok x, num_ok y]
  by_cases h1 : (k == wBond && (wrd a && wrd b && wrd c)) = true
  · rw [if_pos h1]
    have h1' : ((k == wBond) && wrd a && wrd b && wrd c) = true := by
      rw [Bool.and_assoc, Bool.and_assoc, ← Bool.and_assoc (wrd a)]; exact h1
    rw [h1', Bool.true_and]
    cases hx : (numP x).2
    · simp
    · have ex := num_same hx
      cases hy : (y == wAny)
      · cases hz : (numP y).2
        · simp
        · have ey := num_same hz
          simp [ex, ey]
      · simp [ex]
  · rw [if_neg h1]
    have h1' : ((k == wBond) && wrd a && wrd b && wrd c) = false := by
      rw [Bool.and_assoc, Bool.and_assoc, ← Bool.and_assoc (wrd a)]; simpa using h1
    rw [h1']
    simp
def rLine (P : List (Nm × List Nm × List Fd)) (B : List Bd) (Wd : List Nm) : Option (List (Nm × List Nm × List Fd) × List Bd) :=
  match rKd Wd B with
  | some q => some (P ++ [q], B)
  | none => match rBd Wd with
    | some x => some (P, B ++ [x])
    | none => none
theorem kd_not_bd {Wd : List Nm} (h : (bdOf Wd).2 = true) (B : List Bd) : rKd Wd B = none := by
  rw [kd_same]
  have hk : kdOf Wd = none := by
    rcases Wd with _ | ⟨k, _ | ⟨a, _ | ⟨b, _ | ⟨c, _ | ⟨x, _ | ⟨y, _ | ⟨z, r⟩⟩⟩⟩⟩⟩⟩
    all_goals try (cases h; done)
    apply kdOf_no
    by_cases hk : k = wKind
    · subst hk
      have e : (wKind == wBond) = false := by decide
      have : (bdOf [wKind, a, b, c, x, y]).2 = false := by
        have e2 : bdOf [wKind, a, b, c, x, y] = if (wKind == wBond && areN [a, b, c]) = true then (⟨a, b, c, (numP x).1, if (y == wAny) = true then -1 else (numP y).1⟩, (numP x).2 && (if (y == wAny) = true then true else (numP y).2)) else (bdZ, false) := rfl
        rw [e2, e]; rfl
      rw [this] at h; cases h
    · simpa using hk
  unfold kdLine
  rw [hk]
  rfl
theorem al_same (P : List (Nm × List Nm × List Fd)) (B : List Bd) (Wd : List Nm) (P' : List (Nm × List Nm × List Fd)) (B' : List Bd) (hP : P' = P.take 13) (hB : B' = B.take 13) :
    alStep P' B' Wd = (rLine P B Wd).map fun st => (st.1.take 13, st.2.take 13) := by
  have one : ∀ {α : Type} (l : List α) (x : α), oneMore (l.take 13) x = (l ++ [x]).take 13 := fun l x => by
    unfold oneMore
    by_cases h : 12 < l.length
    · rw [if_pos (by simp; omega), List.take_append_of_le_length (by omega)]
    · rw [if_neg (by simp; omega), List.take_of_length_le (by omega), List.take_of_length_le (by simp; omega)]
  have hem : B'.isEmpty = B.isEmpty := by
    rw [hB]; cases B <;> rfl
  have hkd : rKd Wd B' = rKd Wd B := by
    unfold rKd; rw [hem]
  unfold alStep rLine
  by_cases hb : (bdOf Wd).2 = true
  · rw [if_pos hb, kd_not_bd hb B, bd_same, if_pos hb, hP, hB, one]
    rfl
  · rw [if_neg hb, bd_same, if_neg hb, ← hkd, kd_same]
    cases kdLine Wd B' with
    | none => rfl
    | some q =>
      rw [hP, hB]
      show some (oneMore (P.take 13) _, _) = _
      rw [one]
      rfl
end Go.Proofs.YtgjlonilbhlneaaGreatDoor

/-
  The mathematics of SchemaTells: what kinref1 reads of a text's pieces is what package schema makes of its lines.
-/
namespace Go.Proofs.YtgjlonilbhlneaaGreatDoor
open Go.RowKit
set_option linter.unusedVariables false
set_option linter.unusedSimpArgs false

def rGo : List (Nm × List Nm × List Fd) → List Bd → Nat → List Nm → Except Nat (List (Nm × List Nm × List Fd) × List Bd)
  | P, B, _, [] => .ok (P, B)
  | P, B, i, [z] => if z = [] then .ok (P, B) else .error i
  | P, B, i, y :: y' :: r => match rLine P B (pcs 32 y) with
    | none => .error i
    | some st => rGo st.1 st.2 (i + 1) (y' :: r)
theorem rGo_cons (P : List (Nm × List Nm × List Fd)) (B : List Bd) (i : Nat) (y : Nm) (ws : List Nm) (z : Nm) : rGo P B i (y :: (ws ++ [z])) = match rLine P B (pcs 32 y) with
    | none => .error i
    | some st => rGo st.1 st.2 (i + 1) (ws ++ [z]) := by
  cases ws with
  | nil => rfl
  | cons a r => rfl
theorem ln_yes (st : List (Nm × List Nm × List Fd) × List Bd) (w : Nm) : lnStep st (w ++ [10]) = alStep st.1 st.2 (pcs 32 w) := by
  unfold lnStep
  have h : (w ++ [10]).getLast? = some 10 := by simp
  rw [if_pos ((hs_iff _ _).2 h), ts_yes h, wordsL_eq, List.dropLast_concat]
theorem ln_no (st : List (Nm × List Nm × List Fd) × List Bd) {z : Nm} (h : (10 : UInt8) ∉ z) : lnStep st z = none := by
  unfold lnStep
  rw [if_neg]
  intro e
  obtain ⟨y, rfl⟩ := List.getLast?_eq_some_iff.1 ((hs_iff _ _).1 e)
  exact h (by simp)
def lnOf (ws : List Nm) (z : Nm) : List Nm := (ws.map fun w => w ++ [10]) ++ (if z = [] then [] else [z])
def lnFrom (st : List (Nm × List Nm × List Fd) × List Bd) (ys : List Nm) : Option (List (Nm × List Nm × List Fd) × List Bd) := ys.foldl (fun o y => o.bind fun st => lnStep st y) (some st)
theorem lnFrom_cons (st : List (Nm × List Nm × List Fd) × List Bd) (y : Nm) (ys : List Nm) : lnFrom st (y :: ys) = match lnStep st y with
    | none => none
    | some s2 => lnFrom s2 ys := by
  unfold lnFrom
  rw [List.foldl_cons]
  show List.foldl _ (lnStep st y) ys = _
  cases lnStep st y with
  | none =>
    induction ys with
    | nil => rfl
    | cons a r ih => exact ih
  | some s2 => rfl
theorem go_same (z : Nm) (hz : (10 : UInt8) ∉ z) : ∀ (ws : List Nm) (P : List (Nm × List Nm × List Fd)) (B : List Bd) (i : Nat), match rGo P B i (ws ++ [z]) with
    | .ok st => lnFrom (P.take 13, B.take 13) (lnOf ws z) = some (st.1.take 13, st.2.take 13)
    | .error k => lnFrom (P.take 13, B.take 13) (lnOf ws z) = none ∧ ∃ pre y rest st, lnOf ws z = pre ++ y :: rest ∧ i + pre.length = k ∧ lnFrom (P.take 13, B.take 13) pre = some st ∧ lnStep st y = none
  | [], P, B, i => by
    by_cases h : z = []
    · subst h
      simp [rGo, lnOf, lnFrom]
    · have e : rGo P B i ([] ++ [z]) = .error i := by simp [rGo, h]
      rw [e]
      have e2 : lnOf [] z = [z] := by simp [lnOf, h]
      show lnFrom _ _ = none ∧ _
      rw [e2]
      refine ⟨?_, [], z, [], _, rfl, rfl, rfl, ln_no _ hz⟩
      rw [lnFrom_cons, ln_no _ hz]
  | y :: ws, P, B, i => by
    have e0 : lnOf (y :: ws) z = (y ++ [10]) :: lnOf ws z := rfl
    have es : lnStep (P.take 13, B.take 13) (y ++ [10]) = (rLine P B (pcs 32 y)).map fun st => (st.1.take 13, st.2.take 13) := by
      rw [ln_yes]; exact al_same P B _ _ _ rfl rfl
    rw [List.cons_append, rGo_cons]
    cases hr : rLine P B (pcs 32 y) with
    | none =>
      rw [hr] at es
      show lnFrom _ _ = none ∧ _
      rw [e0]
      refine ⟨by rw [lnFrom_cons, es]; rfl, [], y ++ [10], lnOf ws z, _, rfl, rfl, rfl, es⟩
    | some st =>
      rw [hr] at es
      have ih := go_same z hz ws st.1 st.2 (i + 1)
      have ef : ∀ ys, lnFrom (P.take 13, B.take 13) ((y ++ [10]) :: ys) = lnFrom (st.1.take 13, st.2.take 13) ys := fun ys => by
        rw [lnFrom_cons, es]; rfl
      show match rGo st.1 st.2 (i + 1) (ws ++ [z]) with
        | .ok s2 => lnFrom (P.take 13, B.take 13) (lnOf (y :: ws) z) = some (s2.1.take 13, s2.2.take 13)
        | .error k => lnFrom (P.take 13, B.take 13) (lnOf (y :: ws) z) = none ∧ ∃ pre y1 rest s1, lnOf (y :: ws) z = pre ++ y1 :: rest ∧ i + pre.length = k ∧ lnFrom (P.take 13, B.take 13) pre = some s1 ∧ lnStep s1 y1 = none
      cases hg : rGo st.1 st.2 (i + 1) (ws ++ [z]) with
      | ok s2 =>
        rw [hg] at ih
        show lnFrom _ _ = _
        rw [e0, ef]; exact ih
      | error k =>
        rw [hg] at ih
        obtain ⟨i1, pre, y1, rest, s1, i2, i3, i4, i5⟩ := ih
        show lnFrom _ _ = none ∧ _
        refine ⟨by rw [e0, ef]; exact i1, (y ++ [10]) :: pre, y1, rest, s1, by rw [e0, i2]; rfl, by simp; omega, by rw [ef]; exact i4, i5⟩
end Go.Proofs.YtgjlonilbhlneaaGreatDoor

/-
  The mathematics of SchemaTells: a whole text.
-/
namespace Go.Proofs.YtgjlonilbhlneaaGreatDoor
open Go.RowKit
set_option linter.unusedVariables false
set_option linter.unusedSimpArgs false

theorem idxB_no {l : Nm} {c : UInt8} (h : c ∉ l) : Lib.indexByte l c = -1 := by
  induction l with
  | nil => rfl
  | cons x r ih =>
    have h1 : ¬ x = c := fun e => h (by rw [e]; exact List.mem_cons_self ..)
    have h2 := ih (fun hh => h (List.mem_cons_of_mem _ hh))
    unfold Lib.indexByte
    rw [if_neg (by simpa using h1), h2]
    rfl
theorem linesF_nil (k : Nat) : linesF k [] = [] := by
  cases k with
  | zero => rfl
  | succ k => unfold linesF; rw [if_pos rfl]
theorem lines_last {z : Nm} (h : (10 : UInt8) ∉ z) : linesL z = if z = [] then [] else [z] := by
  by_cases hz : z = []
  · subst hz; rfl
  · rw [if_neg hz]
    unfold linesL
    obtain ⟨k, hk⟩ : ∃ k, z.length = k + 1 := ⟨z.length - 1, by have := List.length_pos_iff.2 hz; omega⟩
    rw [hk]
    unfold linesF
    have e : cutL z = (z, []) := by unfold cutL; rw [if_pos (idxB_no h)]
    rw [if_neg hz, e, linesF_nil]
theorem lines_pcs : ∀ (n : Nat) (t : Nm), t.length ≤ n → ∃ ws z, pcs 10 t = ws ++ [z] ∧ (10 : UInt8) ∉ z ∧ linesL t = lnOf ws z
  | n, t, hn => by
    by_cases hm : (10 : UInt8) ∈ t
    · obtain ⟨a, s, rfl, ha⟩ := List.eq_append_cons_of_mem hm
      match n, hn with
      | 0, hn => simp at hn
      | n + 1, hn =>
        obtain ⟨ws, z, h1, h2, h3⟩ := lines_pcs n s (by simp at hn; omega)
        exact ⟨a :: ws, z, by rw [pcs_app s ha, h1]; rfl, h2, by rw [linesL_app ha, h3]; rfl⟩
    · exact ⟨[], t, by rw [pcs_one hm]; rfl, hm, by rw [lines_last hm]; rfl⟩
theorem read_same (t : Nm) : match rGo [] [] 0 (pcs 10 t) with
    | .ok st => lnFold (linesL t) = some (st.1.take 13, st.2.take 13)
    | .error k => lnFold (linesL t) = none ∧ ∃ pre y rest st, linesL t = pre ++ y :: rest ∧ pre.length = k ∧ lnFold pre = some st ∧ lnStep st y = none := by
  obtain ⟨ws, z, h1, h2, h3⟩ := lines_pcs t.length t (Nat.le_refl _)
  have h := go_same z h2 ws [] [] 0
  rw [h1, h3]
  cases hg : rGo [] [] 0 (ws ++ [z]) with
  | ok st => rw [hg] at h; exact h
  | error k =>
    rw [hg] at h
    obtain ⟨i1, pre, y, rest, st, i2, i3, i4, i5⟩ := h
    exact ⟨i1, pre, y, rest, st, i2, by omega, i4, i5⟩
end Go.Proofs.YtgjlonilbhlneaaGreatDoor

/-
  The mathematics of SchemaTells: lists cut at thirteen have the fault of the whole ones.
-/
namespace Go.Proofs.YtgjlonilbhlneaaGreatDoor
open Go.RowKit
set_option linter.unusedVariables false
set_option linter.unusedSimpArgs false

theorem ks_many {L : List Kd} (h : 12 < L.length) : ksErr L = ([], 4) := by unfold ksErr; rw [if_pos h]
theorem s_many {L : List Kd} (h : 12 < L.length) (B : List Bd) : sErr L B = ([], 4) := by
  unfold sErr
  rw [ks_many h, if_neg (by decide)]
theorem cap_err {L L' : List Kd} {P : List (Nm × List Nm × List Fd)} (B : List Bd) (h : L.map kq = P) (h' : L'.map kq = P.take 13) : sErr L' (B.take 13) = sErr L B := by
  have hl : L.length = P.length := by rw [← h, List.length_map]
  have hl' : L'.length = min 13 P.length := by rw [← List.length_take, ← h', List.length_map]
  by_cases hk : 12 < L.length
  · rw [s_many hk, s_many (by omega)]
  · have e : L'.map kq = L.map kq := by rw [h', h, List.take_of_length_le (by omega)]
    rw [sErr_kq e]
    by_cases hb : B.length ≤ 13
    · rw [List.take_of_length_le hb]
    · have e2 : 12 < (B.take 13).length := by rw [List.length_take]; omega
      unfold sErr
      rw [if_pos e2, if_pos (show 12 < B.length by omega)]
end Go.Proofs.YtgjlonilbhlneaaGreatDoor
