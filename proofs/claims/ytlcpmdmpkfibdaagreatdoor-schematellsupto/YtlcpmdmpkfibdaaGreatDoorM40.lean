/-
  What the walk of the law SchemaBack asks of Parse: at a text that reads, at one that does not, at the fact's text, at a right schema's own text.
-/
import Derived.Test.YtlcpmdmpkfibdaaGreatDoorM39
import Derived.Test.YtlcpmdmpkfibdaaGreatDoorM18
import Derived.Laws.Concat
import Derived.Lib.ItoaLen
import Derived.Test.YtlcpmdmpkfibdaaGreatDoorM11
namespace Go.Proofs.YtlcpmdmpkfibdaaGreatDoor
open Go.RowKit
set_option linter.unusedVariables false
set_option linter.unusedSimpArgs false

theorem parse_calls (x : Nm) (hx : x.length ≤ 90000000) (w : World) (hE : EV w) : Calls Tryz.prog 11 #[.string (bs x)] w (PaPost x w) := callsIn_wide.1 (parse_any 9 (by omega) x hx w hE)
/-- The text reads as a right schema. -/
def PaOk (x : Nm) : Prop := ∃ L B, lnFold (linesL x) = some (L.map kq, B) ∧ (sErr L B).2 = 0
/-- What Parse gives of such a text. -/
def YesPost (x : Nm) (w : World) (e : Ending) (w' : World) : Prop := ∃ ak ck ab cb L B, e = .returned (.tuple #[.agg #[.slice ak L.length ck, .slice ab B.length cb], .int .i64 0, .nilIface]) ∧ (lnFold (linesL x) = some (L.map kq, B) ∧ (sErr L B).2 = 0 ∧ IsK w' (.slice ak L.length ck) L ∧ Parts w' L ∧ IsB w' (.slice ab B.length cb) B) ∧ Below w.heap.size w w'
theorem fold_same {x : Nm} {L L' : List Kd} {B B' : List Bd} (h : lnFold (linesL x) = some (L.map kq, B)) (h' : lnFold (linesL x) = some (L'.map kq, B')) : L.map kq = L'.map kq ∧ B = B' := by
  rw [h] at h'
  injection h' with h'
  injection h' with e1 e2
  exact ⟨e1, e2⟩
theorem parse_yes {x : Nm} {w : World} (hx : x.length ≤ 90000000) (hE : EV w) (h : PaOk x) : Calls Tryz.prog 11 #[.string (bs x)] w (YesPost x w) := by
  refine (parse_calls x hx w hE).mono ?_
  rintro e w' ⟨ak, nk, ck, ab, nb, cb, at', z, rfl, hB, h0, h1⟩
  by_cases hz : z = 0
  · obtain ⟨rfl, L, B, q1, q2, q3, q4, q5⟩ := h0 hz
    subst hz
    obtain ⟨a', c', e1, _⟩ := q3.sln
    obtain ⟨a'', c'', e2⟩ : ∃ ab' cb', Value.slice ab nb cb = .slice ab' B.length cb' := by
      rcases q5 with ⟨e, rfl⟩ | ⟨b, off, cap, e, _⟩
      · exact ⟨none, 0, e⟩
      · exact ⟨_, _, e⟩
    injection e1 with _ e1 _
    injection e2 with _ e2 _
    subst e1 e2
    exact ⟨ak, ck, ab, cb, L, B, rfl, ⟨q1, q2, q3, q4, q5⟩, hB⟩
  · exfalso
    obtain ⟨L, B, g1, g2⟩ := h
    rcases (h1 hz).2 with ⟨q1, _⟩ | ⟨_, L', B', q1, q2⟩
    · rw [g1] at q1; cases q1
    · obtain ⟨e1, rfl⟩ := fold_same g1 q1
      rw [sErr_kq e1, q2] at g2
      exact hz g2
theorem parse_no {x : Nm} {w : World} (hx : x.length ≤ 90000000) (hE : EV w) (h : ¬ PaOk x) : Calls Tryz.prog 11 #[.string (bs x)] w fun e w' => ∃ ak nk ck ab nb cb, ∃ at' z : Int, e = .returned (.tuple #[.agg #[.slice ak nk ck, .slice ab nb cb], .int .i64 at', .iface 60 (.int .i64 z)]) ∧ Below w.heap.size w w' := by
  refine (parse_calls x hx w hE).mono ?_
  rintro e w' ⟨ak, nk, ck, ab, nb, cb, at', z, rfl, hB, h0, h1⟩
  by_cases hz : z = 0
  · obtain ⟨_, L, B, q1, q2, _⟩ := h0 hz
    exact absurd ⟨L, B, q1, q2⟩ h
  · exact ⟨ak, nk, ck, ab, nb, cb, at', z, by rw [errV_ne hz], hB⟩
/-- The text of the fact. -/
def fact0 : Nm := [107, 105, 110, 100, 32, 97, 32, 120, 58, 105, 110, 116, 42, 10, 107, 105, 110, 100, 32, 98, 32, 111, 102, 32, 97, 32, 121, 58, 116, 101, 120, 116, 33, 10, 98, 111, 110, 100, 32, 112, 32, 97, 32, 98, 32, 48, 32, 97, 110, 121, 10]
def factL : List Kd := [⟨[97], [], [⟨[120], 1, true, true⟩], .nilIface, .nilIface⟩, ⟨[98], [[97]], [⟨[121], 3, true, false⟩], .nilIface, .nilIface⟩]
def factB : List Bd := [⟨[112], [97], [98], 0, -1⟩]
theorem fact_err : (sErr factL factB).2 = 0 := by rfl
theorem fact_text : sText factL factB = fact0 := by decide +kernel
theorem fact_fold : lnFold (linesL fact0) = some (factL.map kq, factB) := by rw [← fact_text]; exact print_parse fact_err
theorem nErr_short {l : Nm} (h : nErr l = 0) : l.length ≤ 8 := by
  unfold nErr at h
  by_cases h1 : l = []
  · rw [if_pos h1] at h; cases h
  · rw [if_neg h1] at h
    by_cases h2 : 8 < l.length
    · rw [if_pos h2] at h; cases h
    · omega
theorem parse_fact {w : World} (hE : EV w) : Calls Tryz.prog 11 #[.string (bs fact0)] w fun e w' => ∃ k0 ck b0 cb f0 cf, ∃ of0 ff0 bf0 : Nat, e = .returned (.tuple #[.agg #[.slice (some ⟨k0, of0, none⟩) 2 ck, .slice (some ⟨b0, bf0, none⟩) 1 cb], .int .i64 0, .nilIface]) ∧ (w'.cell? ⟨k0, of0 + 2, none⟩ = some (.slice (some ⟨f0, ff0, none⟩) 1 cf) ∧ w'.cell? ⟨f0, ff0 + 3, none⟩ = some (.bool true) ∧ w'.cell? ⟨b0, bf0 + 4, none⟩ = some (.int .i64 (-1))) ∧ Below w.heap.size w w' := by
  refine (parse_yes (by decide) hE ⟨factL, factB, fact_fold, fact_err⟩).mono ?_
  rintro e w' ⟨ak, ck, ab, cb, L, B, rfl, ⟨q1, q2, q3, q4, q5⟩, hB⟩
  obtain ⟨e1, rfl⟩ := fold_same fact_fold q1
  have hl : L.length = 2 := by have := congrArg List.length e1; simpa [factL] using this.symm
  obtain ⟨k, k2, rfl⟩ : ∃ k k2, L = [k, k2] := by
    match L, hl with
    | [k, k2], _ => exact ⟨k, k2, rfl⟩
  simp only [factL, List.map_cons, List.map_nil, kq, List.cons.injEq, Prod.mk.injEq, and_true] at e1
  obtain ⟨⟨n1, n2, n3⟩, _⟩ := e1
  rcases q3 with ⟨_, h0⟩ | ⟨b, off, cap, e3, _, _, _, hl3⟩
  · cases h0
  injection e3 with e3 _ e3'
  subst e3 e3'
  rcases q5 with ⟨_, h0⟩ | ⟨b', off', cap', e5, _, _, _, hl5⟩
  · cases h0
  injection e5 with e5 _ e5'
  subst e5 e5'
  obtain ⟨_, _, m2⟩ := hl3 0 k rfl
  obtain ⟨_, _, _, _, m5⟩ := hl5 0 ⟨[112], [97], [98], 0, -1⟩ rfl
  have hf := (q4 k (by simp)).2
  rw [← n3] at hf
  rcases hf with ⟨_, _, _, h0, _⟩ | ⟨bf, of, cf, e6, _, _, _, hl6⟩
  · cases h0
  obtain ⟨_, _, _, m6⟩ := hl6 0 ⟨[120], 1, true, true⟩ rfl
  rw [e6] at m2
  exact ⟨b, _, b', _, bf, cf, off, of, off', rfl, ⟨by simpa using m2, by simpa using m6, by simpa using m5⟩, hB⟩
theorem text_len {L : List Kd} {B : List Bd} (h : (sErr L B).2 = 0) : (sText L B).length ≤ 90000000 := by
  obtain ⟨hks, hGB, hB12⟩ := sErr_good.1 h
  obtain ⟨hG, hL12⟩ := ksErr_good.1 hks
  have fl : ∀ {α : Type} (f : α → Nm) (m : Nat) (l : List α), (∀ x ∈ l, (f x).length ≤ m) → (l.flatMap f).length ≤ l.length * m := by
    intro α f m l
    induction l with
    | nil => intro _; simp
    | cons a r ih =>
      intro h
      have h1 := h a (by simp)
      have h2 := ih (fun x hx => h x (List.mem_cons_of_mem _ hx))
      rw [List.flatMap_cons, List.length_append, List.length_cons, Nat.add_mul]
      omega
  have h1 : (kText L).length ≤ L.length * 1000 := fl _ 1000 L fun k hk => by
    have := kLine_len k (good_ok hG hk) (by
      have := (nErr_short (good_name hG hk))
      exact this)
    unfold lineL
    rw [List.length_append]
    simp only [List.length_cons, List.length_nil]
    omega
  have h2 : (bText B).length ≤ B.length * 1000 := fl _ 1000 B fun x hx => by
    have h3 := bWords_len x (good_bond hG hGB hx)
    have h4 := join_len (bWords x) [32] 21 h3
    unfold lineL
    rw [List.length_append]
    simp only [List.length_cons, List.length_nil, bWords] at h4 ⊢
    omega
  unfold sText
  rw [List.length_append]
  have := Nat.mul_le_mul_right 1000 hL12
  have := Nat.mul_le_mul_right 1000 hB12
  omega
/-- A right schema's own text. -/
theorem parse_good {L : List Kd} {B : List Bd} {w : World} (h : (sErr L B).2 = 0) (hE : EV w) : Calls Tryz.prog 11 #[.string (bs (sText L B))] w fun e w' => ∃ ak ck ab cb L', e = .returned (.tuple #[.agg #[.slice ak L'.length ck, .slice ab B.length cb], .int .i64 0, .nilIface]) ∧ (L'.map kq = L.map kq ∧ IsK w' (.slice ak L'.length ck) L' ∧ Parts w' L' ∧ IsB w' (.slice ab B.length cb) B) ∧ Below w.heap.size w w' := by
  refine (parse_yes (text_len h) hE ⟨L, B, print_parse h, h⟩).mono ?_
  rintro e w' ⟨ak, ck, ab, cb, L', B', rfl, ⟨q1, q2, q3, q4, q5⟩, hB⟩
  obtain ⟨e1, rfl⟩ := fold_same (print_parse h) q1
  exact ⟨ak, ck, ab, cb, L', rfl, ⟨e1.symm, q3, q4, q5⟩, hB⟩
end Go.Proofs.YtlcpmdmpkfibdaaGreatDoor

/-
  The walk of kinref1.Digits.
-/
namespace Go.Proofs.YtlcpmdmpkfibdaaGreatDoor
open Go.RowKit
set_option linter.unusedVariables false
set_option linter.unusedSimpArgs false

theorem catD (x y : List UInt8) (hx : x.length ≤ 8388608) (hy : y.length ≤ 8388608) (w : World) : (Op.stringOp .add ⟨x.toArray⟩ ⟨y.toArray⟩).run Tryz.prog w = .ok (.string ⟨(x ++ y).toArray⟩) w := run_string_add_lists w x y (by omega) (by omega)
theorem itoa_len (n : Int) (h1 : -1000000 ≤ n) (h2 : n ≤ 1000000) : (Lib.itoa n).length ≤ 8388608 := by
  have := Lib.itoa_length_le n (by omega) (by omega)
  omega
theorem itoa_nn {n : Int} (h : 0 ≤ n) : Lib.itoa n = Lib.decDigits n.toNat := by unfold Lib.itoa; rw [if_neg (by omega)]
theorem itoa_ng {n : Int} (h : n < 0) : Lib.itoa n = 45 :: Lib.decDigits n.natAbs := by unfold Lib.itoa; rw [if_pos h]

set_option maxHeartbeats 1000000 in
theorem digits_one (n : Int) (w : World) (h0 : 0 ≤ n) (h9 : n < 10) :
    Calls Tryz.prog 24 #[.int .i64 n] w fun e w' => e = .returned (.string ⟨(Lib.itoa n).toArray⟩) ∧ w' = w := by
  rw [itoa_nn h0, Lib.decDigits_one (by omega)]
  have hn : n = 0 ∨ n = 1 ∨ n = 2 ∨ n = 3 ∨ n = 4 ∨ n = 5 ∨ n = 6 ∨ n = 7 ∨ n = 8 ∨ n = 9 := by omega
  rcases hn with rfl | rfl | rfl | rfl | rfl | rfl | rfl | rfl | rfl | rfl
  all_goals
    clear h0 h9
    go_enter Tryz.func24, Tryz.ntmps24
    go_wp2_with fail
    go_ret
    exact ⟨rfl, rfl⟩

set_option maxHeartbeats 1000000 in
theorem digits_nn (k : Nat) : ∀ (n : Int) (w : World), 0 ≤ n → n < 10 ^ (k + 1) → n ≤ 1000000 →
    Calls Tryz.prog 24 #[.int .i64 n] w fun e w' => e = .returned (.string ⟨(Lib.itoa n).toArray⟩) ∧ w' = w := by
  induction k with
  | zero => intro n w h0 h1 _; exact digits_one n w h0 (by simpa using h1)
  | succ k ih =>
    intro n w h0 h1 h2
    by_cases h10 : n < 10
    · exact digits_one n w h0 h10
    · have hd : n / 10 < 10 ^ (k + 1) := by
        rw [Int.pow_succ] at h1; omega
      have e1 : Hid (Lib.itoa n = Lib.itoa (n / 10) ++ Lib.itoa (n % 10)) := by
        show _ = _
        rw [itoa_nn h0, itoa_nn (n := n / 10) (by omega), itoa_nn (n := n % 10) (by omega), Lib.decDigits_one (i := (n % 10).toNat) (by omega), Lib.decDigits, dif_neg (by omega)]
        rw [show n.toNat / 10 = (n / 10).toNat by omega, show n.toNat % 10 = (n % 10).toNat by omega]
      have hadd := fun w => catD (Lib.itoa (n / 10)) (Lib.itoa (n % 10)) (itoa_len _ (by omega) (by omega)) (itoa_len _ (by omega) (by omega)) w
      clear h1
      go_enter Tryz.func24, Tryz.ntmps24
      go_wp2_with (go_at_call 24; refine (ih (n / 10) _ (by omega) hd (by omega)).mono ?_; rintro e w' ⟨rfl, rfl⟩; refine Hid.out ?_)
      refine Lib.hid ?_
      go_wp2_with (go_at_call 24; refine (digits_one (n % 10) _ (by omega) (by omega)).mono ?_; rintro e w' ⟨rfl, rfl⟩)
      go_ret
      exact ⟨ret_v (by rw [e1.out]; rfl), rfl⟩

end Go.Proofs.YtlcpmdmpkfibdaaGreatDoor

/-
  The walk of kinref1.SchemaText: the text of a right schema. The mathematics.
-/
namespace Go.Proofs.YtlcpmdmpkfibdaaGreatDoor
open Go.RowKit
set_option linter.unusedVariables false
set_option linter.unusedSimpArgs false

theorem join_flat (s : Nm) : ∀ (l : List Nm) (a : Nm), Lib.join (a :: l) s = a ++ l.flatMap fun x => s ++ x
  | [], a => by simp [Lib.join]
  | b :: r, a => by
    have ih := join_flat s r b
    unfold Lib.join at ih ⊢
    simp only [List.intercalate, List.intersperse, List.flatten, List.flatMap_cons] at ih ⊢
    simp [ih, List.append_assoc]
/-- What stands behind the name, of what it comes of. -/
def ofT (l : List Nm) : Nm := if l = [] then [] else [32, 111, 102, 32] ++ Lib.join l [44]
/-- The fields. -/
def fT (l : List Fd) : Nm := l.flatMap fun f => 32 :: fText f
theorem ofT_one (n : Nm) : ofT ([] ++ [n]) = ofT [] ++ [32, 111, 102, 32] ++ n := by
  simp [ofT, join_flat]
theorem ofT_more {l : List Nm} (h : ¬ l = []) (n : Nm) : ofT (l ++ [n]) = ofT l ++ [44] ++ n := by
  obtain ⟨a, r, rfl⟩ := List.exists_cons_of_ne_nil h
  unfold ofT
  rw [if_neg (by simp), if_neg h, show (a :: r) ++ [n] = a :: (r ++ [n]) from rfl, join_flat, join_flat]
  simp [List.append_assoc]
theorem fT_more (l : List Fd) (f : Fd) : fT (l ++ [f]) = fT l ++ [32] ++ f.nm ++ [58] ++ tyW f.t ++ (if f.key = true then [42] else if f.must = true then [33] else []) := by
  simp [fT, fText, List.append_assoc]
theorem kLine_eq (k : Kd) : lineL (kWords k) = [107, 105, 110, 100, 32] ++ k.nm ++ ofT k.of ++ fT k.fs ++ [10] := by
  unfold lineL kWords ofT fT
  by_cases h : k.of = []
  · rw [if_pos h, if_pos h]
    simp [join_flat, List.flatMap_map]
  · rw [if_neg h, if_neg h]
    simp [join_flat, List.flatMap_map, List.append_assoc]
theorem bLine_eq (x : Bd) : lineL (bWords x) = [98, 111, 110, 100, 32] ++ x.nm ++ [32] ++ x.fr ++ [32] ++ x.tt ++ [32] ++ Lib.itoa x.mn ++ [32] ++ mxW x.mx ++ [10] := by
  unfold lineL bWords
  simp [join_flat, List.append_assoc]
theorem kText_more (L : List Kd) (k : Kd) : kText (L ++ [k]) = kText L ++ [107, 105, 110, 100, 32] ++ k.nm ++ ofT k.of ++ fT k.fs ++ [10] := by
  unfold kText
  rw [List.flatMap_append, List.flatMap_cons, List.flatMap_nil, List.append_nil, kLine_eq]
  simp [List.append_assoc]
theorem bText_more (L : List Bd) (x : Bd) : bText (L ++ [x]) = bText L ++ [98, 111, 110, 100, 32] ++ x.nm ++ [32] ++ x.fr ++ [32] ++ x.tt ++ [32] ++ Lib.itoa x.mn ++ [32] ++ mxW x.mx ++ [10] := by
  unfold bText
  rw [List.flatMap_append, List.flatMap_cons, List.flatMap_nil, List.append_nil, bLine_eq]
  simp [List.append_assoc]
theorem ofT_len (l : List Nm) (h : ∀ n ∈ l, n.length ≤ 8) : (ofT l).length ≤ 4 + 9 * l.length := by
  unfold ofT
  split
  · simp
  · have := join_len l [44] 8 h
    simp only [List.length_append, List.length_cons, List.length_nil] at this ⊢
    omega
theorem fText_len2 (f : Fd) (h : f.nm.length ≤ 8) : (fText f).length ≤ 14 := by
  have := tyW_len f.t
  unfold fText
  simp only [List.length_append, List.length_cons, List.length_nil]
  split
  · simp; omega
  · split <;> (simp; omega)
theorem fT_len (l : List Fd) (h : ∀ f ∈ l, f.nm.length ≤ 8) : (fT l).length ≤ 15 * l.length := by
  unfold fT
  induction l with
  | nil => simp
  | cons f r ih =>
    have := fText_len2 f (h f (by simp))
    have := ih (fun g hg => h g (by simp [hg]))
    simp only [List.flatMap_cons, List.length_append, List.length_cons]
    omega
theorem kText_len {L : List Kd} (hG : Good L) : ∀ k, (kText (L.take k)).length ≤ 1000 * k
  | 0 => by simp [kText]
  | k + 1 => by
    have ih := kText_len hG k
    by_cases hk : k < L.length
    · obtain ⟨p, hp⟩ : ∃ p, L[k]? = some p := ⟨L[k], by simp [hk]⟩
      have hm := List.mem_of_getElem? hp
      have ho := good_ok hG hm
      have h1 := ofT_len p.of ho.nms
      have h2 := fT_len p.fs (fun f hf => (ho.fds f hf).1)
      have h3 := name_len (good_name hG hm)
      have h4 := ho.of4
      have h5 := ho.fs8
      rw [takeK hp, kText_more]
      simp only [List.length_append, List.length_cons, List.length_nil]
      omega
    · rw [List.take_of_length_le (by omega)] at ih ⊢
      omega
theorem bText_len {L : List Kd} {B : List Bd} (hG : Good L) (hB : GoodB L B) : ∀ k, (bText (B.take k)).length ≤ 1000 * k
  | 0 => by simp [bText]
  | k + 1 => by
    have ih := bText_len hG hB k
    by_cases hk : k < B.length
    · obtain ⟨p, hp⟩ : ∃ p, B[k]? = some p := ⟨B[k], by simp [hk]⟩
      have ho := good_bond hG hB (List.mem_of_getElem? hp)
      have h1 := bWords_len p ho
      have e1 := h1 (Lib.itoa p.mn) (by simp [bWords])
      have e2 := h1 (mxW p.mx) (by simp [bWords])
      have h3 := name_len ho.nm
      have h4 := name_len ho.fr
      have h5 := name_len ho.tt
      rw [takeK hp, bText_more]
      simp only [List.length_append, List.length_cons, List.length_nil]
      omega
    · rw [List.take_of_length_le (by omega)] at ih ⊢
      omega
/-- Two texts behind one another. -/
theorem catB (x y : Nm) (hx : x.length ≤ 8388608) (hy : y.length ≤ 8388608) (w : World) : (Op.stringOp .add (bs x) (bs y)).run Tryz.prog w = .ok (.string (bs (x ++ y))) w := catD x y hx hy w
theorem catL (x y : Nm) (d : Array UInt8) (hd : d = y.toArray) (hx : x.length ≤ 8388608) (hy : y.length ≤ 8388608) (w : World) : (Op.stringOp .add (bs x) ⟨d⟩).run Tryz.prog w = .ok (.string (bs (x ++ y))) w := by subst hd; exact catD x y hx hy w
/-- The same, the sum behind a name of its own. -/
theorem catX (x y : Nm) (d : ByteArray) (hd : d = bs y) (hx : x.length ≤ 8388608) (hy : y.length ≤ 8388608) : ∃ z, Hid (z = x ++ y) ∧ z.length ≤ x.length + y.length ∧ ∀ w, (Op.stringOp .add (bs x) d).run Tryz.prog w = .ok (.string (bs z)) w := by
  subst hd
  exact ⟨x ++ y, rfl, by simp, fun w => catD x y hx hy w⟩
end Go.Proofs.YtlcpmdmpkfibdaaGreatDoor
