/-
  The walk of kinref1.Digits.
-/
import Derived.Test.YtgjlonilbhlneaaGreatDoorM30
import Derived.Laws.Concat
import Derived.Lib.ItoaLen
import Derived.Test.YtgjlonilbhlneaaGreatDoorM11
import Derived.Deep.QuietTactic
import Derived.BigQuiet
import Derived.Deep.DeepCutAuto
namespace Go.Proofs.YtgjlonilbhlneaaGreatDoor
open Go.RowKit
set_option linter.unusedVariables false
set_option linter.unusedSimpArgs false

theorem catD (x y : List UInt8) (hx : x.length ≤ 8388608) (hy : y.length ≤ 8388608) (w : World) : (Op.stringOp .add ⟨x.toArray⟩ ⟨y.toArray⟩).run Tryz.prog w = .ok (.string ⟨(x ++ y).toArray⟩) w := run_string_add_lists w x y (by omega) (by omega)
theorem itoa_len (n : Int) (h1 : -1000000 ≤ n) (h2 : n ≤ 1000000) : (Lib.itoa n).length ≤ 8388608 := by
  have := Lib.itoa_length_le n (by omega) (by omega)
  omega
theorem itoa_nn {n : Int} (h : 0 ≤ n) : Lib.itoa n = Lib.decDigits n.toNat := by unfold Lib.itoa; rw [if_neg (by omega)]
set_option maxHeartbeats 1000000 in
theorem digits_one (n : Int) (w : World) (h0 : 0 ≤ n) (h9 : n < 10) :
    Calls Tryz.prog 24 #[.int .i64 n] w fun e w' => e = .returned (.string ⟨(Lib.itoa n).toArray⟩) ∧ w' = w := by
  rw [itoa_nn h0, Lib.decDigits_one (by omega)]
  have hn : n = 0 ∨ n = 1 ∨ n = 2 ∨ n = 3 ∨ n = 4 ∨ n = 5 ∨ n = 6 ∨ n = 7 ∨ n = 8 ∨ n = 9 := by omega
  rcases hn with rfl | rfl | rfl | rfl | rfl | rfl | rfl | rfl | rfl | rfl
  all_goals
    clear h0 h9
    go_enter Tryz.func24, Tryz.ntmps24
    go_wp2_with fail
    go_ret
    exact ⟨rfl, rfl⟩

set_option maxHeartbeats 1000000 in
theorem digits_nn (k : Nat) : ∀ (n : Int) (w : World), 0 ≤ n → n < 10 ^ (k + 1) → n ≤ 1000000 →
    Calls Tryz.prog 24 #[.int .i64 n] w fun e w' => e = .returned (.string ⟨(Lib.itoa n).toArray⟩) ∧ w' = w := by
  induction k with
  | zero => intro n w h0 h1 _; exact digits_one n w h0 (by simpa using h1)
  | succ k ih =>
    intro n w h0 h1 h2
    by_cases h10 : n < 10
    · exact digits_one n w h0 h10
    · have hd : n / 10 < 10 ^ (k + 1) := by
        rw [Int.pow_succ] at h1; omega
      have e1 : Hid (Lib.itoa n = Lib.itoa (n / 10) ++ Lib.itoa (n % 10)) := by
        show _ = _
        rw [itoa_nn h0, itoa_nn (n := n / 10) (by omega), itoa_nn (n := n % 10) (by omega), Lib.decDigits_one (i := (n % 10).toNat) (by omega), Lib.decDigits, dif_neg (by omega)]
        rw [show n.toNat / 10 = (n / 10).toNat by omega, show n.toNat % 10 = (n % 10).toNat by omega]
      have hadd := fun w => catD (Lib.itoa (n / 10)) (Lib.itoa (n % 10)) (itoa_len _ (by omega) (by omega)) (itoa_len _ (by omega) (by omega)) w
      clear h1
      go_enter Tryz.func24, Tryz.ntmps24
      go_wp2_with (go_at_call 24; refine (ih (n / 10) _ (by omega) hd (by omega)).mono ?_; rintro e w' ⟨rfl, rfl⟩; refine Hid.out ?_)
      refine Lib.hid ?_
      go_wp2_with (go_at_call 24; refine (digits_one (n % 10) _ (by omega) (by omega)).mono ?_; rintro e w' ⟨rfl, rfl⟩)
      go_ret
      exact ⟨ret_v (by rw [e1.out]; rfl), rfl⟩

end Go.Proofs.YtgjlonilbhlneaaGreatDoor

/-
  The walk of kinref1.SchemaText: the text of a right schema. The mathematics.
-/
namespace Go.Proofs.YtgjlonilbhlneaaGreatDoor
open Go.RowKit
set_option linter.unusedVariables false
set_option linter.unusedSimpArgs false

theorem join_flat (s : Nm) : ∀ (l : List Nm) (a : Nm), Lib.join (a :: l) s = a ++ l.flatMap fun x => s ++ x
  | [], a => by simp [Lib.join]
  | b :: r, a => by
    have ih := join_flat s r b
    unfold Lib.join at ih ⊢
    simp only [List.intercalate, List.intersperse, List.flatten, List.flatMap_cons] at ih ⊢
    simp [ih, List.append_assoc]
def ofT (l : List Nm) : Nm := if l = [] then [] else [32, 111, 102, 32] ++ Lib.join l [44]
def fT (l : List Fd) : Nm := l.flatMap fun f => 32 :: fText f
theorem ofT_one (n : Nm) : ofT ([] ++ [n]) = ofT [] ++ [32, 111, 102, 32] ++ n := by
  simp [ofT, join_flat]
theorem ofT_more {l : List Nm} (h : ¬ l = []) (n : Nm) : ofT (l ++ [n]) = ofT l ++ [44] ++ n := by
  obtain ⟨a, r, rfl⟩ := List.exists_cons_of_ne_nil h
  unfold ofT
  rw [if_neg (by simp), if_neg h, show (a :: r) ++ [n] = a :: (r ++ [n]) from rfl, join_flat, join_flat]
  simp [List.append_assoc]
theorem fT_more (l : List Fd) (f : Fd) : fT (l ++ [f]) = fT l ++ [32] ++ f.nm ++ [58] ++ tyW f.t ++ (if f.key = true then [42] else if f.must = true then [33] else []) := by
  simp [fT, fText, List.append_assoc]
theorem kLine_eq (k : Kd) : lineL (kWords k) = [107, 105, 110, 100, 32] ++ k.nm ++ ofT k.of ++ fT k.fs ++ [10] := by
  unfold lineL kWords ofT fT
  by_cases h : k.of = []
  · rw [if_pos h, if_pos h]
    simp [join_flat, List.flatMap_map]
  · rw [if_neg h, if_neg h]
    simp [join_flat, List.flatMap_map, List.append_assoc]
theorem bLine_eq (x : Bd) : lineL (bWords x) = [98, 111, 110, 100, 32] ++ x.nm ++ [32] ++ x.fr ++ [32] ++ x.tt ++ [32] ++ Lib.itoa x.mn ++ [32] ++ mxW x.mx ++ [10] := by
  unfold lineL bWords
  simp [join_flat, List.append_assoc]
theorem kText_more (L : List Kd) (k : Kd) : kText (L ++ [k]) = kText L ++ [107, 105, 110, 100, 32] ++ k.nm ++ ofT k.of ++ fT k.fs ++ [10] := by
  unfold kText
  rw [List.flatMap_append, List.flatMap_cons, List.flatMap_nil, List.append_nil, kLine_eq]
  simp [List.append_assoc]
theorem bText_more (L : List Bd) (x : Bd) : bText (L ++ [x]) = bText L ++ [98, 111, 110, 100, 32] ++ x.nm ++ [32] ++ x.fr ++ [32] ++ x.tt ++ [32] ++ Lib.itoa x.mn ++ [32] ++ mxW x.mx ++ [10] := by
  unfold bText
  rw [List.flatMap_append, List.flatMap_cons, List.flatMap_nil, List.append_nil, bLine_eq]
  simp [List.append_assoc]
theorem ofT_len (l : List Nm) (h : ∀ n ∈ l, n.length ≤ 8) : (ofT l).length ≤ 4 + 9 * l.length := by
  unfold ofT
  split
  · simp
  · have := join_len l [44] 8 h
    simp only [List.length_append, List.length_cons, List.length_nil] at this ⊢
    omega
theorem fText_len2 (f : Fd) (h : f.nm.length ≤ 8) : (fText f).length ≤ 14 := by
  have := tyW_len f.t
  unfold fText
  simp only [List.length_append, List.length_cons, List.length_nil]
  split
  · simp; omega
  · split <;> (simp; omega)
theorem fT_len (l : List Fd) (h : ∀ f ∈ l, f.nm.length ≤ 8) : (fT l).length ≤ 15 * l.length := by
  unfold fT
  induction l with
  | nil => simp
  | cons f r ih =>
    have := fText_len2 f (h f (by simp))
    have := ih (fun g hg => h g (by simp [hg]))
    simp only [List.flatMap_cons, List.length_append, List.length_cons]
    omega
theorem kText_len {L : List Kd} (hG : Good L) : ∀ k, (kText (L.take k)).length ≤ 1000 * k
  | 0 => by simp [kText]
  | k + 1 => by
    have ih := kText_len hG k
    by_cases hk : k < L.length
    · obtain ⟨p, hp⟩ : ∃ p, L[k]? = some p := ⟨L[k], by simp [hk]⟩
      have hm := List.mem_of_getElem? hp
      have ho := good_ok hG hm
      have h1 := ofT_len p.of ho.nms
      have h2 := fT_len p.fs (fun f hf => (ho.fds f hf).1)
      have h3 := name_len (good_name hG hm)
      have h4 := ho.of4
      have h5 := ho.fs8
      rw [takeK hp, kText_more]
      simp only [List.length_append, List.length_cons, List.length_nil]
      omega
    · rw [List.take_of_length_le (by omega)] at ih ⊢
      omega
theorem bText_len {L : List Kd} {B : List Bd} (hG : Good L) (hB : GoodB L B) : ∀ k, (bText (B.take k)).length ≤ 1000 * k
  | 0 => by simp [bText]
  | k + 1 => by
    have ih := bText_len hG hB k
    by_cases hk : k < B.length
    · obtain ⟨p, hp⟩ : ∃ p, B[k]? = some p := ⟨B[k], by simp [hk]⟩
      have ho := good_bond hG hB (List.mem_of_getElem? hp)
      have h1 := bWords_len p ho
      have e1 := h1 (Lib.itoa p.mn) (by simp [bWords])
      have e2 := h1 (mxW p.mx) (by simp [bWords])
      have h3 := name_len ho.nm
      have h4 := name_len ho.fr
      have h5 := name_len ho.tt
      rw [takeK hp, bText_more]
      simp only [List.length_append, List.length_cons, List.length_nil]
      omega
    · rw [List.take_of_length_le (by omega)] at ih ⊢
      omega
theorem catX (x y : Nm) (d : ByteArray) (hd : d = bs y) (hx : x.length ≤ 8388608) (hy : y.length ≤ 8388608) : ∃ z, Hid (z = x ++ y) ∧ z.length ≤ x.length + y.length ∧ ∀ w, (Op.stringOp .add (bs x) d).run Tryz.prog w = .ok (.string (bs z)) w := by
  subst hd
  exact ⟨x ++ y, rfl, by simp, fun w => catD x y hx hy w⟩
end Go.Proofs.YtgjlonilbhlneaaGreatDoor

/-
  The walk of kinref1.SchemaText.
-/
namespace Go.Proofs.YtgjlonilbhlneaaGreatDoor
open Go.RowKit
set_option linter.unusedVariables false
set_option linter.unusedSimpArgs false

theorem digits_bs (n : Int) (w : World) (h0 : 0 ≤ n) (h1 : n ≤ 20) : Calls Tryz.prog 24 #[.int .i64 n] w fun e w' => e = .returned (.string (bs (Lib.itoa n))) ∧ w' = w := digits_nn 1 n w h0 (by omega) (by omega)
theorem cell_of {w : World} {b i : Nat} {cs : Array Value} {t : TypeId} {u : Value} (h : w.heap[b]? = some (.cells cs t (0, 0))) (hu : cs[i]? = some u) : w.cell? ⟨b, i, none⟩ = some u := by simp [World.cell?, h, hu]
theorem isK_at {w : World} {ak : Option Addr} {ck : Nat} {L : List Kd} (h : IsK w (.slice ak L.length ck) L) : ∀ k p, L[k]? = some p → ∃ b off, ak = some ⟨b, off, none⟩ ∧ b < w.heap.size ∧ w.cell? ⟨b, off + k * 3, none⟩ = some (.string (bs p.nm)) ∧ w.cell? ⟨b, off + k * 3 + 1, none⟩ = some p.vo ∧ w.cell? ⟨b, off + k * 3 + 2, none⟩ = some p.vf := fun k p hp => by
  rcases h with ⟨_, rfl⟩ | ⟨b, off, cap, e, h1, h2, h3, h4⟩
  · cases hp
  · injection e with e _ _
    exact ⟨b, off, e, h3, h4 k p hp⟩
theorem isB_at {w : World} {ak : Option Addr} {ck : Nat} {L : List Bd} (h : IsB w (.slice ak L.length ck) L) : ∀ k x, L[k]? = some x → ∃ b off, ak = some ⟨b, off, none⟩ ∧ b < w.heap.size ∧ w.cell? ⟨b, off + k * 5, none⟩ = some (.string (bs x.nm)) ∧ w.cell? ⟨b, off + k * 5 + 1, none⟩ = some (.string (bs x.fr)) ∧ w.cell? ⟨b, off + k * 5 + 2, none⟩ = some (.string (bs x.tt)) ∧ w.cell? ⟨b, off + k * 5 + 3, none⟩ = some (.int .i64 x.mn) ∧ w.cell? ⟨b, off + k * 5 + 4, none⟩ = some (.int .i64 x.mx) := fun k p hp => by
  rcases h with ⟨_, rfl⟩ | ⟨b, off, cap, e, h1, h2, h3, h4⟩
  · cases hp
  · injection e with e _ _
    exact ⟨b, off, e, h3, h4 k p hp⟩
theorem isS_at {w : World} {v : Value} {l : List Nm} (h : IsS w v l) : ∃ ao c, v = .slice ao l.length c ∧ ∀ j g, l[j]? = some g → ∃ b o, ao = some ⟨b, o, none⟩ ∧ b < w.heap.size ∧ w.cell? ⟨b, o + j, none⟩ = some (.string (bs g)) := by
  rcases h with ⟨ao, c, rfl, rfl, _⟩ | ⟨b, off, cap, rfl, hc, hm, hb, hl⟩
  · exact ⟨ao, c, rfl, fun j g hg => by simp at hg⟩
  · exact ⟨_, _, rfl, fun j g hg => ⟨b, off, rfl, hb, hl j g hg⟩⟩
theorem isF_at {w : World} {v : Value} {l : List Fd} (h : IsF w v l) : ∃ ao c, v = .slice ao l.length c ∧ ∀ j f, l[j]? = some f → ∃ b o, ao = some ⟨b, o, none⟩ ∧ b < w.heap.size ∧ w.cell? ⟨b, o + j * 4, none⟩ = some (.string (bs f.nm)) ∧ w.cell? ⟨b, o + j * 4 + 1, none⟩ = some (.int .i64 f.t) ∧ w.cell? ⟨b, o + j * 4 + 2, none⟩ = some (.bool f.must) ∧ w.cell? ⟨b, o + j * 4 + 3, none⟩ = some (.bool f.key) := by
  rcases h with ⟨ao, c, rfl, rfl, _⟩ | ⟨b, off, cap, rfl, hc, hm, hb, hl⟩
  · exact ⟨ao, c, rfl, fun j g hg => by simp at hg⟩
  · exact ⟨_, _, rfl, fun j g hg => ⟨b, off, rfl, hb, hl j g hg⟩⟩
def Tys (w : World) (b : Nat) : Prop := w.heap[b]? = some (.cells #[.string ⟨#[]⟩, .string ⟨#[105, 110, 116]⟩, .string ⟨#[98, 111, 111, 108]⟩, .string ⟨#[116, 101, 120, 116]⟩] 9 (0, 0))
theorem tys_at {w : World} {b : Nat} (h : Tys w b) {t : Int} (ht : t = 1 ∨ t = 2 ∨ t = 3) : w.cell? ⟨b, t.toNat, none⟩ = some (.string (bs (tyW t))) := by
  rcases ht with rfl | rfl | rfl
  · exact cell_of h rfl
  · exact cell_of h rfl
  · exact cell_of h rfl
set_option maxHeartbeats 8000000 in
set_option maxRecDepth 100000 in
theorem stext_any {vk vb : Value} {L : List Kd} {B : List Bd} {w : World} (hK : IsK w vk L) (hP : Parts w L) (hb : IsB w vb B) (hse : (sErr L B).2 = 0) :
    Calls Tryz.prog 8 #[.agg #[vk, vb]] w fun e w' => e = .returned (.string (bs (sText L B))) ∧ Below w.heap.size w w' := by
  obtain ⟨hks, hGB, hB12⟩ := sErr_good.1 hse
  obtain ⟨hG, hL12⟩ := ksErr_good.1 hks
  obtain ⟨ak, ck, evk, _⟩ := hK.sln
  obtain ⟨ab, cb, evb, _⟩ := hb.sln
  subst evk evb
  have VK := Lib.hid (isK_at hK)
  have VB := Lib.hid (isB_at hb)
  have HP : Hid (Parts w L ∧ Good L ∧ GoodB L B) := ⟨hP, hG, hGB⟩
  obtain ⟨W0, hW0⟩ : ∃ W0, W0 = (w.alloc (.cells #[.slice ak L.length ck, .slice ab B.length cb] 25)).alloc (.cells #[.string ⟨#[]⟩, .string ⟨#[105, 110, 116]⟩, .string ⟨#[98, 111, 111, 108]⟩, .string ⟨#[116, 101, 120, 116]⟩] 9) := ⟨_, rfl⟩
  have HB0 : Hid (Below w.heap.size w W0) := by rw [hW0]; exact b_alloc (b_alloc (Below.refl _ _) (Nat.le_refl _) _) (Nat.le_refl _) _
  have N0 : Hid (W0.heap[w.heap.size]? = some (.cells #[.slice ak L.length ck, .slice ab B.length cb] 25 (0, 0))) := by
    rw [hW0]; exact (Below.heap_alloc _ _ _ (by simp)).trans (heap_alloc_new w _)
  have N1 : Hid (Tys W0 (w.heap.size + 1)) := by
    have := heap_alloc_new (w.alloc (.cells #[.slice ak L.length ck, .slice ab B.length cb] 25)) (.cells #[.string ⟨#[]⟩, .string ⟨#[105, 110, 116]⟩, .string ⟨#[98, 111, 111, 108]⟩, .string ⟨#[116, 101, 120, 116]⟩] 9)
    rw [hW0]; rw [World.size_alloc] at this; exact this
  have hz0 : W0.heap.size = w.heap.size + 2 := by rw [hW0]; simp
  have HX : Hid (∀ W, Below W0.heap.size W0 W → W.cell? ⟨w.heap.size, 0, none⟩ = some (.slice ak L.length ck) ∧ W.cell? ⟨w.heap.size, 1, none⟩ = some (.slice ab B.length cb)) := fun W h => ⟨cell_of ((h.block _ (by omega)).trans N0.out) rfl, cell_of ((h.block _ (by omega)).trans N0.out) rfl⟩
  have HT : Hid (∀ W, Below W0.heap.size W0 W → Tys W (w.heap.size + 1)) := fun W h => (h.block _ (by omega)).trans N1.out
  have HZ : Hid (W0.heap.size = w.heap.size + 2) := hz0
  clear hK hP hb hse hks hGB hG hz0 N0 N1
  go_enter Tryz.func8, Tryz.ntmps8
  go_upto_region 2 with fail
  rw [← hW0]
  clear hW0
  go_wp2
  go_loopw [4, 5] (fun s4 s5 wr => ∃ k : Nat, k ≤ L.length ∧ s5 = .int .i64 k ∧ s4 = .string (bs (kText (L.take k))) ∧ Below W0.heap.size W0 wr) (fun _ s5 _ => L.length - (intOf s5).toNat)
  case atStart => exact ⟨0, Nat.zero_le _, rfl, rfl, Below.refl _ _⟩
  case round =>
    obtain ⟨k, hk, rfl, rfl, hB⟩ := hrel
    obtain ⟨x0, x1⟩ := HX.out wr hB
    have HB : Hid (Below W0.heap.size W0 wr) := hB
    have HTl : Hid ((kText (L.take k)).length ≤ 12000) := by have := kText_len HP.out.2.1 k; show _ ≤ _; omega
    by_cases hlt : k < L.length
    · obtain ⟨p, hp⟩ : ∃ p, L[k]? = some p := ⟨L[k], by simp [hlt]⟩
      obtain ⟨b, off, rfl, hbl, c0, c1, c2⟩ := VK.out k p hp
      have hpm := List.mem_of_getElem? hp
      have hbw := on1 HB0.out hB (Nat.le_refl _)
      have d0 := (hbw.cell (p := ⟨b, off + k * 3, none⟩) hbl).trans c0
      have d1 := (hbw.cell (p := ⟨b, off + k * 3 + 1, none⟩) hbl).trans c1
      have d2 := (hbw.cell (p := ⟨b, off + k * 3 + 2, none⟩) hbl).trans c2
      have hok := good_ok HP.out.2.1 hpm
      have hnl := name_len (good_name HP.out.2.1 hpm)
      obtain ⟨vo, co, ev, hvo⟩ := isS_at (HP.out.1 p hpm).1
      obtain ⟨vf, cf, ef, hvf⟩ := isF_at (HP.out.1 p hpm).2
      rw [ev] at d1
      rw [ef] at d2
      obtain ⟨T, hT⟩ : ∃ T, T = kText (L.take k) := ⟨_, rfl⟩
      have HTT : Hid (T = kText (L.take k)) := hT
      rw [← hT] at HTl ⊢
      obtain ⟨W1, hW1⟩ : ∃ W1, W1 = wr.alloc (.cells #[.string (bs p.nm), .slice vo p.of.length co, .slice vf p.fs.length cf] 55) := ⟨_, rfl⟩
      have n1 : W1.heap[wr.heap.size]? = some (.cells #[.string (bs p.nm), .slice vo p.of.length co, .slice vf p.fs.length cf] 55 (0, 0)) := by rw [hW1]; exact heap_alloc_new wr _
      have hB1 : Below wr.heap.size wr W1 := by rw [hW1]; exact b_alloc (Below.refl _ _) (Nat.le_refl _) _
      have hz1 : W1.heap.size = wr.heap.size + 1 := by rw [hW1]; simp
      have HB1 : Hid (Below W0.heap.size W0 W1) := on1 hB hB1 (Nat.le_refl _)
      have e0 := cell_of (i := 0) n1 rfl
      have e1 := cell_of (i := 1) n1 rfl
      have e2 := cell_of (i := 2) n1 rfl
      have HN : Hid (∀ W, Below W1.heap.size W1 W → W.cell? ⟨wr.heap.size, 2, none⟩ = some (.slice vf p.fs.length cf)) := fun W h => cell_of ((h.block _ (by omega)).trans n1) rfl
      have HO : Hid ((∀ j g, p.of[j]? = some g → ∃ b o, vo = some ⟨b, o, none⟩ ∧ W1.cell? ⟨b, o + j, none⟩ = some (.string (bs g))) ∧ p.of.length ≤ 4 ∧ (∀ n ∈ p.of, n.length ≤ 8)) := by
        refine ⟨fun j g hg => ?_, hok.of4, hok.nms⟩
        obtain ⟨b', o', q1, q2, q3⟩ := hvo j g hg
        exact ⟨b', o', q1, ((on1 hbw hB1 (Nat.le_refl _)).cell (p := ⟨b', o' + j, none⟩) q2).trans q3⟩
      have HF : Hid ((∀ W, Below W1.heap.size W1 W → ∀ j f, p.fs[j]? = some f → ∃ b o, vf = some ⟨b, o, none⟩ ∧ b < W.heap.size ∧ W.cell? ⟨b, o + j * 4, none⟩ = some (.string (bs f.nm)) ∧ W.cell? ⟨b, o + j * 4 + 1, none⟩ = some (.int .i64 f.t) ∧ W.cell? ⟨b, o + j * 4 + 2, none⟩ = some (.bool f.must) ∧ W.cell? ⟨b, o + j * 4 + 3, none⟩ = some (.bool f.key)) ∧ p.fs.length ≤ 8 ∧ ∀ f ∈ p.fs, f.nm.length ≤ 8 ∧ (f.t = 1 ∨ f.t = 2 ∨ f.t = 3)) := by
        refine ⟨fun W hW j f hf => ?_, hok.fs8, hok.fds⟩
        obtain ⟨b', o', q1, q2, q3, q4, q5, q6⟩ := hvf j f hf
        have hbb := on1 (on1 hbw hB1 (Nat.le_refl _)) hW (Nat.le_refl _)
        exact ⟨b', o', q1, Nat.lt_of_lt_of_le q2 hbb.size, (hbb.cell (p := ⟨b', _, none⟩) q2).trans q3, (hbb.cell (p := ⟨b', _, none⟩) q2).trans q4, (hbb.cell (p := ⟨b', _, none⟩) q2).trans q5, (hbb.cell (p := ⟨b', _, none⟩) q2).trans q6⟩
      have HR : Hid (∀ X, X = T ++ [107, 105, 110, 100, 32] ++ p.nm ++ ofT p.of ++ fT p.fs ++ [10] → X = kText (L.take (k + 1))) := fun X h => by rw [h, takeK hp, kText_more, HTT.out]
      have hofl := hok.of4
      have hfsl := hok.fs8
      obtain ⟨S1, E1, m1, a1⟩ := catX T [107, 105, 110, 100, 32] ⟨#[107, 105, 110, 100, 32]⟩ rfl (by have := HTl.out; omega) (by decide)
      simp only [List.length_cons, List.length_nil] at m1
      obtain ⟨T1, E2, m2, a2⟩ := catX S1 p.nm (bs p.nm) rfl (by have := HTl.out; omega) (by omega)
      have HT1 : Hid (T1 = T ++ [107, 105, 110, 100, 32] ++ p.nm ∧ T1.length ≤ 12100) := ⟨by rw [E2.out, E1.out], by have := HTl.out; omega⟩
      clear m1 m2
      have hzz : ¬ b = wr.heap.size := by have := hbw.size; omega
      have hw0 : ¬ w.heap.size = wr.heap.size := by have := hB.size; have := HZ.out; omega
      have H1 : Hid (W1 = wr.alloc (.cells #[.string (bs p.nm), .slice vo p.of.length co, .slice vf p.fs.length cf] 55) ∧ W1.heap.size = wr.heap.size + 1) := ⟨hW1, hz1⟩
      clear hW1 hz1 hp c0 c1 c2 hbl ev ef hvo hvf hok hpm hbw hB n1 hB1 hT
      go_upto_region 8 with fail
      rw [← H1.out.1]
      clear a1 a2 d0 d1 d2 x0 x1
      go_wp2
      go_loop [4, 7] (fun s4 s7 => ∃ j : Nat, j ≤ p.of.length ∧ s7 = .int .i64 j ∧ ∃ S, Hid (S = T1 ++ ofT (p.of.take j)) ∧ s4 = .string (bs S)) (fun _ s7 => p.of.length - (intOf s7).toNat)
      case atStart => exact ⟨0, Nat.zero_le _, rfl, T1, (by show _ = _; simp [ofT]), rfl⟩
      case round =>
        obtain ⟨j, hj, rfl, S, HS, rfl⟩ := hrel
        have hjl : (ofT (p.of.take j)).length ≤ 40 := by
          have := ofT_len (p.of.take j) (fun n hn => HO.out.2.2 n (List.mem_of_mem_take hn))
          simp at this; omega
        have hSl : S.length ≤ 12200 := by have := HT1.out.2; rw [HS.out]; simp; omega
        by_cases hjt : j < p.of.length
        · obtain ⟨g, hg⟩ : ∃ g, p.of[j]? = some g := ⟨p.of[j], by simp [hjt]⟩
          obtain ⟨b', o', rfl, cg⟩ := HO.out.1 j g hg
          have hgl := HO.out.2.2 g (List.mem_of_getElem? hg)
          by_cases hj0 : j = 0
          · obtain ⟨S1, E1, m1, a1⟩ := catX S [32, 111, 102, 32] ⟨#[32, 111, 102, 32]⟩ rfl (by omega) (by decide)
            simp only [List.length_cons, List.length_nil] at m1
            obtain ⟨S2, E2, m2, a2⟩ := catX S1 g (bs g) rfl (by omega) (by omega)
            have HR2 : Hid (S2 = T1 ++ ofT (p.of.take (j + 1))) := by
              show _ = _
              rw [E2.out, E1.out, HS.out, takeK hg, hj0, List.take_zero, ofT_one]; simp [List.append_assoc]
            have hjz : ((j : Int) == 0) = true := by simp [hj0]
            clear hg hj0 m1 m2 hjl
            go_wp2
            go_round
            case rel => exact ⟨j + 1, by omega, by go_num, S2, HR2, rfl⟩
            case measure => simp [intOf]; omega
          · obtain ⟨S1, E1, m1, a1⟩ := catX S [44] ⟨#[44]⟩ rfl (by omega) (by decide)
            simp only [List.length_cons, List.length_nil] at m1
            obtain ⟨S2, E2, m2, a2⟩ := catX S1 g (bs g) rfl (by omega) (by omega)
            have HR2 : Hid (S2 = T1 ++ ofT (p.of.take (j + 1))) := by
              show _ = _
              rw [E2.out, E1.out, HS.out, takeK hg, ofT_more (fun e => by rcases List.take_eq_nil_iff.1 e with h | h; exact hj0 h; rw [h] at hjt; simp at hjt)]; simp [List.append_assoc]
            have hjz : ((j : Int) == 0) = false := by simp [hj0]
            clear hg hj0 m1 m2 hjl
            go_wp2
            go_round
            case rel => exact ⟨j + 1, by omega, by go_num, S2, HR2, rfl⟩
            case measure => simp [intOf]; omega
        · obtain rfl : j = p.of.length := by omega
          rw [List.take_length] at HS
          have HT2 : Hid (S = T1 ++ ofT p.of ∧ S.length ≤ 12200) := ⟨HS.out, hSl⟩
          clear hjl hjt hj hSl HS
          go_wp2
          obtain ⟨WA, hWA⟩ : ∃ W, W = wr := ⟨wr, rfl⟩
          subst hWA
          go_loopw [4, 8] (fun s4 s8 wq => ∃ j : Nat, j ≤ p.fs.length ∧ s8 = .int .i64 j ∧ (∃ X, Hid (X = S ++ fT (p.fs.take j)) ∧ s4 = .string (bs X)) ∧ Below W1.heap.size W1 wq) (fun _ s8 _ => p.fs.length - (intOf s8).toNat)
          case atStart => exact ⟨0, Nat.zero_le _, rfl, ⟨S, (by show _ = _; simp [fT]), rfl⟩, Below.refl _ _⟩
          case round =>
            obtain ⟨j, hj, rfl, ⟨X, HX2, rfl⟩, hBq⟩ := hrel
            have e2q := HN.out wr hBq
            have hjl : (fT (p.fs.take j)).length ≤ 120 := by
              have := fT_len (p.fs.take j) (fun f hf => (HF.out.2.2 f (List.mem_of_mem_take hf)).1)
              simp at this; omega
            by_cases hjt : j < p.fs.length
            · obtain ⟨f, hf⟩ : ∃ f, p.fs[j]? = some f := ⟨p.fs[j], by simp [hjt]⟩
              obtain ⟨b', o', rfl, hbq, f0, f1, f2, f3⟩ := HF.out.1 wr hBq j f hf
              obtain ⟨hfl, hft⟩ := HF.out.2.2 f (List.mem_of_getElem? hf)
              have hXl : X.length ≤ 12400 := by have := HT2.out.2; rw [HX2.out]; simp; omega
              obtain ⟨W2, hW2⟩ : ∃ W2, W2 = wr.alloc (.cells #[.string (bs f.nm), .int .i64 f.t, .bool f.must, .bool f.key] 52) := ⟨_, rfl⟩
              have n2 : W2.heap[wr.heap.size]? = some (.cells #[.string (bs f.nm), .int .i64 f.t, .bool f.must, .bool f.key] 52 (0, 0)) := by rw [hW2]; exact heap_alloc_new wr _
              have hB2 : Below wr.heap.size wr W2 := by rw [hW2]; exact b_alloc (Below.refl _ _) (Nat.le_refl _) _
              have g0 := cell_of (i := 0) n2 rfl
              have g1 := cell_of (i := 1) n2 rfl
              have g2 := cell_of (i := 2) n2 rfl
              have g3 := cell_of (i := 3) n2 rfl
              have HBr : Hid (Below W1.heap.size W1 W2) := on1 hBq hB2 (Nat.le_refl _)
              have gt : W2.cell? ⟨w.heap.size + 1, f.t.toNat, none⟩ = some (.string (bs (tyW f.t))) := tys_at (HT.out W2 (on1 HB1.out HBr.out (Nat.le_refl _))) hft
              have hftl := tyW_len f.t
              obtain ⟨S1, E1, m1, a1⟩ := catX X [32] ⟨#[32]⟩ rfl (by omega) (by decide)
              simp only [List.length_cons, List.length_nil] at m1
              obtain ⟨S2, E2, m2, a2⟩ := catX S1 f.nm (bs f.nm) rfl (by omega) (by omega)
              obtain ⟨S3, E3, m3, a3⟩ := catX S2 [58] ⟨#[58]⟩ rfl (by omega) (by decide)
              simp only [List.length_cons, List.length_nil] at m3
              obtain ⟨S4, E4, m4, a4⟩ := catX S3 (tyW f.t) (bs (tyW f.t)) rfl (by omega) (by omega)
              obtain ⟨S5, E5, m5, a5⟩ := catX S4 [42] ⟨#[42]⟩ rfl (by omega) (by decide)
              obtain ⟨S6, E6, m6, a6⟩ := catX S4 [33] ⟨#[33]⟩ rfl (by omega) (by decide)
              have HR2 : Hid (∀ Y, Y = S4 ++ (if f.key = true then [42] else if f.must = true then [33] else []) → Y = S ++ fT (p.fs.take (j + 1))) := fun Y h => by
                rw [h, E4.out, E3.out, E2.out, E1.out, HX2.out, takeK hf, fT_more]; simp [List.append_assoc]
              clear m1 m2 m3 m4 m5 m6
              have ht0 : (0 : Int) ≤ f.t := by omega
              have ht4 : f.t < 4 := by omega
              have HH2 := Lib.hid hW2
              have hne2 : ¬ b' = wr.heap.size := by omega
              have hne3 : ¬ WA.heap.size = wr.heap.size := by have := hBq.size; have := H1.out.2; omega
              clear hf hft hBq hB2 n2 hW2 hjl
              obtain ⟨fn, ft, fm, fk⟩ := f
              simp only at *
              cases fk <;> cases fm
              all_goals
                go_upto_region 19 with fail
                rw [← HH2.out]
                go_quiet (fail)
                go_wp2
                go_roundw
                case rel => exact ⟨j + 1, by omega, by go_num, ⟨_, HR2.out _ (by first | exact E5.out | exact E6.out | simp), rfl⟩, b_drewN HBr.out _⟩
                case measure => simp [intOf]; omega
            · obtain rfl : j = p.fs.length := by omega
              rw [List.take_length] at HX2 hjl
              obtain ⟨S1, E1, m1, a1⟩ := catX X [10] ⟨#[10]⟩ rfl (by have := HT2.out.2; rw [HX2.out]; simp; omega) (by decide)
              have HR2 : Hid (S1 = kText (L.take (k + 1)) ∧ Below W0.heap.size W0 wr) := ⟨HR.out _ (by rw [E1.out, HX2.out, HT2.out.1, HT1.out.1]), on1 HB1.out hBq (Nat.le_refl _)⟩
              clear hjl hBq m1
              go_wp2
              go_roundw
              case rel => exact ⟨k + 1, by omega, by go_num, by rw [HR2.out.1], HR2.out.2⟩
              case measure => simp [intOf]; omega
    · obtain rfl : k = L.length := by omega
      rw [List.take_length] at HTl ⊢
      clear hB hlt hk
      go_wp2
      obtain ⟨WA, hWA⟩ : ∃ W, W = wr := ⟨wr, rfl⟩
      subst hWA
      go_loopw [4, 10] (fun s4 s10 wq => ∃ j : Nat, j ≤ B.length ∧ s10 = .int .i64 j ∧ (∃ X, Hid (X = kText L ++ bText (B.take j)) ∧ s4 = .string (bs X)) ∧ Below W0.heap.size W0 wq) (fun _ s10 _ => B.length - (intOf s10).toNat)
      case atStart => exact ⟨0, Nat.zero_le _, rfl, ⟨_, (by show _ = _; simp [bText]), rfl⟩, HB.out⟩
      case round =>
        obtain ⟨j, hj, rfl, ⟨S, HS, rfl⟩, hBq⟩ := hrel
        obtain ⟨y0, y1⟩ := HX.out wr hBq
        have hjl := bText_len HP.out.2.1 HP.out.2.2 j
        by_cases hjt : j < B.length
        · obtain ⟨x, hx⟩ : ∃ x, B[j]? = some x := ⟨B[j], by simp [hjt]⟩
          obtain ⟨b, off, rfl, hbl, c0, c1, c2, c3, c4⟩ := VB.out j x hx
          have hbw := on1 HB0.out hBq (Nat.le_refl _)
          have d0 := (hbw.cell (p := ⟨b, off + j * 5, none⟩) hbl).trans c0
          have d1 := (hbw.cell (p := ⟨b, off + j * 5 + 1, none⟩) hbl).trans c1
          have d2 := (hbw.cell (p := ⟨b, off + j * 5 + 2, none⟩) hbl).trans c2
          have d3 := (hbw.cell (p := ⟨b, off + j * 5 + 3, none⟩) hbl).trans c3
          have d4 := (hbw.cell (p := ⟨b, off + j * 5 + 4, none⟩) hbl).trans c4
          have ho := good_bond HP.out.2.1 HP.out.2.2 (List.mem_of_getElem? hx)
          have l1 := name_len ho.nm
          have l2 := name_len ho.fr
          have l3 := name_len ho.tt
          have l4 := bWords_len x ho (Lib.itoa x.mn) (by simp [bWords])
          have l5 := bWords_len x ho (mxW x.mx) (by simp [bWords])
          obtain ⟨r1, r2, r3⟩ := inR_iff.1 ho.rg
          have hSl : S.length ≤ 25000 := by have := HTl.out; rw [HS.out]; simp; omega
          obtain ⟨W2, hW2⟩ : ∃ W2, W2 = wr.alloc (.cells #[.string (bs x.nm), .string (bs x.fr), .string (bs x.tt), .int .i64 x.mn, .int .i64 x.mx] 40) := ⟨_, rfl⟩
          have n2 : W2.heap[wr.heap.size]? = some (.cells #[.string (bs x.nm), .string (bs x.fr), .string (bs x.tt), .int .i64 x.mn, .int .i64 x.mx] 40 (0, 0)) := by rw [hW2]; exact heap_alloc_new wr _
          have hB2 : Below wr.heap.size wr W2 := by rw [hW2]; exact b_alloc (Below.refl _ _) (Nat.le_refl _) _
          have g0 := cell_of (i := 0) n2 rfl
          have g1 := cell_of (i := 1) n2 rfl
          have g2 := cell_of (i := 2) n2 rfl
          have g3 := cell_of (i := 3) n2 rfl
          have g4 := cell_of (i := 4) n2 rfl
          have HBr : Hid (Below W0.heap.size W0 W2) := on1 hBq hB2 (Nat.le_refl _)
          obtain ⟨S1, E1, m1, a1⟩ := catX S [98, 111, 110, 100, 32] ⟨#[98, 111, 110, 100, 32]⟩ rfl (by omega) (by decide)
          simp only [List.length_cons, List.length_nil] at m1
          obtain ⟨S2, E2, m2, a2⟩ := catX S1 x.nm (bs x.nm) rfl (by omega) (by omega)
          obtain ⟨S3, E3, m3, a3⟩ := catX S2 [32] ⟨#[32]⟩ rfl (by omega) (by decide)
          simp only [List.length_cons, List.length_nil] at m3
          obtain ⟨S4, E4, m4, a4⟩ := catX S3 x.fr (bs x.fr) rfl (by omega) (by omega)
          obtain ⟨S5, E5, m5, a5⟩ := catX S4 [32] ⟨#[32]⟩ rfl (by omega) (by decide)
          simp only [List.length_cons, List.length_nil] at m5
          obtain ⟨S6, E6, m6, a6⟩ := catX S5 x.tt (bs x.tt) rfl (by omega) (by omega)
          obtain ⟨S7, E7, m7, a7⟩ := catX S6 [32] ⟨#[32]⟩ rfl (by omega) (by decide)
          simp only [List.length_cons, List.length_nil] at m7
          obtain ⟨S8, E8, m8, a8⟩ := catX S7 (Lib.itoa x.mn) (bs (Lib.itoa x.mn)) rfl (by omega) (by omega)
          obtain ⟨S9, E9, m9, a9⟩ := catX S8 [32] ⟨#[32]⟩ rfl (by omega) (by decide)
          simp only [List.length_cons, List.length_nil] at m9
          have HR2 : Hid (∀ Y, Y = S9 ++ mxW x.mx ++ [10] → Y = kText L ++ bText (B.take (j + 1))) := fun Y h => by
            rw [h, E9.out, E8.out, E7.out, E6.out, E5.out, E4.out, E3.out, E2.out, E1.out, HS.out, takeK hx, bText_more]; simp [List.append_assoc]
          have h9 : S9.length ≤ 26000 := by omega
          clear m1 m2 m3 m4 m5 m6 m7 m8 m9
          have cD := fun W => digits_bs x.mn W r1 r2
          have HH2 := Lib.hid hW2
          have hne2 : ¬ b = wr.heap.size := by have := hbw.size; omega
          have hne3 : ¬ w.heap.size = wr.heap.size := by have := hBq.size; have := HZ.out; omega
          clear hx hBq hB2 n2 hW2 hbw c0 c1 c2 c3 c4 hbl ho hjl
          by_cases hm : x.mx = -1
          · have em : mxW x.mx = [97, 110, 121] := by unfold mxW; rw [if_pos hm]
            rw [em] at HR2
            obtain ⟨S10, E10, m10, b1⟩ := catX S9 [97, 110, 121] ⟨#[97, 110, 121]⟩ rfl (by omega) (by decide)
            simp only [List.length_cons, List.length_nil] at m10
            obtain ⟨S11, E11, m11, b2⟩ := catX S10 [10] ⟨#[10]⟩ rfl (by omega) (by decide)
            have HR3 : Hid (S11 = kText L ++ bText (B.take (j + 1))) := HR2.out _ (by rw [E11.out, E10.out])
            clear m10 m11
            have hge : ¬ (0 : Int) ≤ x.mx := by omega
            have hlt0 : x.mx < 0 := by omega
            clear em hm r3 l5
            go_upto_region 29 with fail
            rw [← HH2.out]
            go_wp2_with (go_at_call 24; refine (cD _).mono ?_; rintro e w' ⟨rfl, rfl⟩)
            go_roundw
            case rel => exact ⟨j + 1, by omega, by go_num, ⟨S11, HR3, rfl⟩, HBr.out⟩
            case measure => simp [intOf]; omega
          · have em : mxW x.mx = Lib.itoa x.mx := by unfold mxW; rw [if_neg hm]
            rw [em] at HR2 l5
            have cX := fun W => digits_bs x.mx W (by omega) (by omega)
            obtain ⟨S10, E10, m10, b1⟩ := catX S9 (Lib.itoa x.mx) (bs (Lib.itoa x.mx)) rfl (by omega) (by omega)
            obtain ⟨S11, E11, m11, b2⟩ := catX S10 [10] ⟨#[10]⟩ rfl (by omega) (by decide)
            have HR3 : Hid (S11 = kText L ++ bText (B.take (j + 1))) := HR2.out _ (by rw [E11.out, E10.out])
            clear m10 m11
            have hge : (0 : Int) ≤ x.mx := by omega
            clear em hm r3
            go_upto_region 29 with fail
            rw [← HH2.out]
            go_upto_region 30 with (go_at_call 24; refine (cD _).mono ?_; rintro e w' ⟨rfl, rfl⟩)
            go_wp2_with (go_at_call 24; refine (cX _).mono ?_; rintro e w' ⟨rfl, rfl⟩)
            go_roundw
            case rel => exact ⟨j + 1, by omega, by go_num, ⟨S11, HR3, rfl⟩, HBr.out⟩
            case measure => simp [intOf]; omega
        · obtain rfl : j = B.length := by omega
          rw [List.take_length] at HS
          clear hjl
          go_wp2
          go_ret
          exact ⟨ret_v (by rw [HS.out]; rfl), on1 HB0.out hBq (Nat.le_refl _)⟩
end Go.Proofs.YtgjlonilbhlneaaGreatDoor
