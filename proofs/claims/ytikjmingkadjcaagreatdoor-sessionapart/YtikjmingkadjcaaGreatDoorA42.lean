/-
  The walks of late and with.
-/
import Derived.Test.YtikjmingkadjcaaGreatDoorA41
import Derived.Test.YtikjmingkadjcaaGreatDoorA20
import Derived.Test.YtikjmingkadjcaaGreatDoorA10
import Derived.Test.YtikjmingkadjcaaGreatDoorA39
namespace Go.Proofs.YtikjmingkadjcaaGreatDoor
open Go.RowKit Go.Maps
set_option linter.unusedVariables false
set_option linter.unusedSimpArgs false

theorem zeroU (w : World) : (zeroValue 93).run Tryz.prog w = .ok (.agg #[]) w := by kernel_rfl
theorem setI_look {w : World} {m n : Nat} {X : List Int} (h : SetI w m n X) {x : Int} (hx : in64 x) : (Instr.lookup 81 (.map (some m)) (.int .i64 x) true).run Tryz.prog w = .ok (.tuple #[.agg #[], .bool (decide (x ∈ X))]) w := by
  obtain ⟨D, h1, _, h3⟩ := h
  obtain ⟨v, ps, hr, hv⟩ := h1.look_ok keyedI Tryz.underlying81 (zeroU w) (zd := .agg []) (zp := []) unitElem_mk (Go.Maps.keyOf_int_mk Tryz.underlying3 hx)
  obtain ⟨rfl, _⟩ := unitElem_inv hv
  rw [hr]
  have : has D (.int .i64 x) = decide (x ∈ X) := by
    by_cases hm : x ∈ X
    · rw [(h3 x).2 hm]; simp [hm]
    · cases e : has D (.int .i64 x) with
      | false => simp [hm]
      | true => exact absurd ((h3 x).1 e) hm
  rw [this]
set_option maxHeartbeats 1000000 in
theorem late1_any {w : World} {b q m n : Nat} {X : List Int} {c0 c1 c2 c3 c4 : Value} {id : Int} (hb : w.cell? ⟨b, 0, none⟩ = some (.pointer (some ⟨q, 0, none⟩))) (hq : w.heap[q]? = some (.cells #[c0, c1, c2, c3, c4, .map (some m)] 83 (0, 0))) (hS : SetI w m n X) (hi : in64 id) :
    Calls Tryz.prog 38 #[.int .i64 id, .pointer (some ⟨b, 0, none⟩)] w fun e w' => e = .returned (.bool (decide (id ∈ X))) ∧ Below w.heap.size w w' := by
  have hl := setI_look hS hi
  have y0 : w.cell? ⟨q, 5, none⟩ = some (.map (some m)) := cell_at hq rfl
  generalize decide (id ∈ X) = r at hl ⊢
  clear hS hi hq
  go_enter Tryz.func38, Tryz.ntmps38
  go_wp2
  go_ret
  exact ⟨rfl, b_alloc (Below.refl _ _) _⟩
def idxI (X : List Int) : List Int → Nat → Int
  | [], _ => -1
  | x :: r, k => if x ∈ X then (k : Int) else idxI X r (k + 1)
theorem idxI_any (X : List Int) : ∀ (L : List Int) (k : Nat), decide (0 ≤ idxI X L k) = L.any fun x => decide (x ∈ X)
  | [], k => by simp [idxI]
  | x :: r, k => by
    unfold idxI
    by_cases h : x ∈ X
    · rw [if_pos h]; simp [h]
    · rw [if_neg h, idxI_any X r (k + 1)]; simp [h]
set_option maxHeartbeats 4000000 in
set_option maxRecDepth 100000 in
theorem idxI_some (g cap : Nat) (L : List Int) {w : World} {b q m n : Nat} {X : List Int} {c0 c1 c2 c3 c4 : Value} (hg : g < w.heap.size) (hL : ∀ k x, L[k]? = some x → w.cell? ⟨g, k, none⟩ = some (.int .i64 x)) (hn : L.length ≤ 5000) (h64 : ∀ x ∈ L, in64 x) (hb : w.cell? ⟨b, 0, none⟩ = some (.pointer (some ⟨q, 0, none⟩))) (hbl : b < w.heap.size) (hq : w.heap[q]? = some (.cells #[c0, c1, c2, c3, c4, .map (some m)] 83 (0, 0))) (hS : SetI w m n X) :
    Calls Tryz.prog 53 #[.slice (some ⟨g, 0, none⟩) L.length cap, .func (.func 38) #[] #[.pointer (some ⟨b, 0, none⟩)]] w fun e w' => e = .returned (.int .i64 (idxI X L 0)) ∧ Below w.heap.size w w' := by
  have HS : Hid (SetI w m n X ∧ w.heap[q]? = some (.cells #[c0, c1, c2, c3, c4, .map (some m)] 83 (0, 0)) ∧ ∀ x ∈ L, in64 x) := ⟨hS, hq, h64⟩
  have hqlt := (Array.getElem?_eq_some_iff.1 hq).1
  have hmlt := hS.lt
  clear hS hq h64
  go_enter Tryz.func53, Tryz.ntmps53
  go_wp2
  go_loopw [8] (fun i wr => ∃ k : Nat, k ≤ L.length ∧ i = .int .i64 k ∧ idxI X L 0 = idxI X (L.drop k) k ∧ Below w.heap.size w wr) (fun i _ => L.length - (intOf i).toNat)
  case atStart => exact ⟨0, Nat.zero_le _, rfl, rfl, Below.refl _ _⟩
  case round =>
    obtain ⟨k, hk, rfl, hi, hB⟩ := hrel
    have HI : Hid (idxI X L 0 = idxI X (L.drop k) k) := hi
    clear hi
    by_cases hlt : k < L.length
    · obtain ⟨p, hp⟩ : ∃ p, L[k]? = some p := ⟨L[k], by simp [hlt]⟩
      have d0 := (hB.cell (p := ⟨g, k, none⟩) hg).trans (hL k p hp)
      have HD : Hid (L.drop k = p :: L.drop (k + 1)) := by
        obtain ⟨hl, e⟩ := List.getElem?_eq_some_iff.1 hp
        show _ = _
        rw [List.drop_eq_getElem_cons hl, e]
      have cn := late1_any (b := b) ((hB.cell (p := ⟨b, 0, none⟩) hbl).trans hb) ((hB.block q hqlt).trans HS.out.2.1) (HS.out.1.of_block (hB.block m hmlt)) (HS.out.2.2 p (List.mem_of_getElem? hp))
      clear hp hL hb
      by_cases hq : p ∈ X
      · have H : Hid (idxI X L 0 = k) := by
          show _ = _
          rw [HI.out, HD.out]; unfold idxI; rw [if_pos hq]
        rw [decide_eq_true hq] at cn
        clear HI HD hq
        go_wp2_with (go_at_call 38; refine cn.mono ?_; rintro e w' ⟨rfl, hB2⟩)
        go_ret
        exact ⟨ret_v (by rw [H.out]; rfl), on1K hB hB2 (Nat.le_refl _)⟩
      · have H : Hid (idxI X L 0 = idxI X (L.drop (k + 1)) (k + 1)) := by
          show _ = _
          rw [HI.out, HD.out]; conv => lhs; unfold idxI
          rw [if_neg hq]
        rw [decide_eq_false hq] at cn
        clear HI HD hq
        go_wp2_with (go_at_call 38; refine cn.mono ?_; rintro e w' ⟨rfl, hB2⟩)
        go_roundw
        case rel => exact ⟨k + 1, by omega, by go_num, H.out, on1K hB hB2 (Nat.le_refl _)⟩
        case measure => simp [intOf]; omega
    · have hd : L.drop k = [] := List.drop_eq_nil_of_le (by omega)
      have H : Hid (idxI X L 0 = -1) := by
        show _ = _
        rw [HI.out, hd]; rfl
      clear HI hd hL hb
      go_wp2
      go_ret
      exact ⟨ret_v (by rw [H.out]; rfl), hB⟩
set_option maxHeartbeats 1000000 in
theorem idxI_nil (f : Value) (w : World) :
    Calls Tryz.prog 53 #[.slice none 0 0, f] w fun e w' => e = .returned (.int .i64 (-1)) ∧ Below w.heap.size w w' := by
  go_enter Tryz.func53, Tryz.ntmps53
  go_wp2
  go_loopw [8] (fun i wr => i = .int .i64 0 ∧ wr = w) (fun i _ => 0)
  case atStart => exact ⟨rfl, rfl⟩
  case round =>
    obtain ⟨rfl, rfl⟩ := hrel
    go_wp2
    go_ret
    exact ⟨rfl, Below.refl _ _⟩
set_option maxHeartbeats 1000000 in
theorem contI_any {v : Value} {L : List Int} {w : World} {b q m n : Nat} {X : List Int} {c0 c1 c2 c3 c4 : Value} (hv : IsI w v L) (hn : L.length ≤ 5000) (h64 : ∀ x ∈ L, in64 x) (hb : w.cell? ⟨b, 0, none⟩ = some (.pointer (some ⟨q, 0, none⟩))) (hbl : b < w.heap.size) (hq : w.heap[q]? = some (.cells #[c0, c1, c2, c3, c4, .map (some m)] 83 (0, 0))) (hS : SetI w m n X) :
    Calls Tryz.prog 37 #[v, .func (.func 38) #[] #[.pointer (some ⟨b, 0, none⟩)]] w fun e w' => e = .returned (.bool (L.any fun x => decide (x ∈ X))) ∧ Below w.heap.size w w' := by
  have c : Calls Tryz.prog 53 #[v, .func (.func 38) #[] #[.pointer (some ⟨b, 0, none⟩)]] w fun e w' => e = .returned (.int .i64 (idxI X L 0)) ∧ Below w.heap.size w w' := by
    rcases hv with ⟨rfl, rfl⟩ | ⟨g, cap, rfl, hle, hg, hc⟩
    · exact idxI_nil _ w
    · exact idxI_some g cap L hg hc hn h64 hb hbl hq hS
  rw [← idxI_any X L 0]
  generalize idxI X L 0 = r at c ⊢
  clear hv hn h64 hb hq hS
  go_enter Tryz.func37, Tryz.ntmps37
  go_wp2_with (go_at_call 53; refine c.mono ?_; rintro e w' ⟨rfl, hB1⟩)
  go_ret
  exact ⟨ret_v rfl, hB1⟩
set_option maxHeartbeats 1000000 in
theorem late_any {v : Value} {L : List Int} {w : World} {q m n : Nat} {X : List Int} {c0 c1 c2 c3 c4 : Value} (hv : IsI w v L) (hn : L.length ≤ 5000) (h64 : ∀ x ∈ L, in64 x) (hq : w.heap[q]? = some (.cells #[c0, c1, c2, c3, c4, .map (some m)] 83 (0, 0))) (hS : SetI w m n X) :
    Calls Tryz.prog 24 #[.pointer (some ⟨q, 0, none⟩), v] w fun e w' => e = .returned (.bool (L.any fun x => decide (x ∈ X))) ∧ Below w.heap.size w w' := by
  have hB0 : Below w.heap.size w (w.alloc (.cells #[.pointer (some ⟨q, 0, none⟩)] 80)) := b_alloc (Below.refl _ _) _
  have c := contI_any (b := w.heap.size) (hv.on hB0) hn h64 (by simp) (by simp) ((hB0.block q (Array.getElem?_eq_some_iff.1 hq).1).trans hq) (hS.of_block (hB0.block m hS.lt))
  generalize (L.any fun x => decide (x ∈ X)) = r at c ⊢
  have HB := Lib.hid hB0
  clear hv hn h64 hq hS hB0
  go_enter Tryz.func24, Tryz.ntmps24
  go_wp2_with (go_at_call 37; refine c.mono ?_; rintro e w' ⟨rfl, hB1⟩)
  go_ret
  exact ⟨rfl, on1K HB.out hB1 (Nat.le_refl _)⟩
end Go.Proofs.YtikjmingkadjcaaGreatDoor

/-
  The walk of take.
-/
namespace Go.Proofs.YtikjmingkadjcaaGreatDoor
open Go.RowKit Go.Maps
set_option linter.unusedVariables false
set_option linter.unusedSimpArgs false

structure Bp (B : Nat) (P : Nat → Prop) (w w' : World) : Prop where
  os : w'.os = w.os
  tape : w'.tape = w.tape
  output : w'.output = w.output
  size : w.heap.size ≤ w'.heap.size
  block : ∀ k, k < B → ¬ P k → w'.heap[k]? = w.heap[k]?
theorem Bp.refl (B : Nat) (P : Nat → Prop) (w : World) : Bp B P w w := ⟨rfl, rfl, rfl, Nat.le_refl _, fun _ _ _ => rfl⟩
theorem Bp.trans {B : Nat} {P : Nat → Prop} {a b c : World} (h : Bp B P a b) (k : Bp B P b c) : Bp B P a c :=
  ⟨k.os.trans h.os, k.tape.trans h.tape, k.output.trans h.output, Nat.le_trans h.size k.size, fun x hx hp => (k.block x hx hp).trans (h.block x hx hp)⟩
theorem Bp.of_grown {B : Nat} {P : Nat → Prop} {w w' : World} {r : Option Nat} (h : w.grownBy w' r) (hB : B ≤ w.heap.size) (hr : ∀ g, r = some g → P g ∨ B ≤ g) : Bp B P w w' :=
  ⟨h.os, h.tape, h.output, h.size, fun k hk hp => h.block k (Nat.lt_of_lt_of_le hk hB) (fun e => by
    rcases hr k e.symm with h1 | h1
    · exact hp h1
    · omega)⟩
def Ss.tk (x : Ss) (L : List Int) : Ss := ⟨x.gN, x.gT, x.O, x.eN, x.eT, x.X ++ L⟩
def OfM (l : Bl) (s : Bs) (b : Nat) : Prop := ∃ i, s.F i ≠ none ∧ b = l.m i
def TkI (w : World) (l : Bl) (s : Bs) (L : List Int) (D : DataW Unit) (r : Nat) (wr : World) : Prop :=
  ∃ left cnt, wr.ranges Tryz.prog 3 ptR l.mb r s.op D left cnt ∧ (∀ kl, left kl = true → has D kl = true) ∧ Bp w.heap.size (OfM l s) w wr ∧
    ∀ i x, s.F i = some x → (left (.int .i64 i) = true ∧ wr.heap[l.m i]? = w.heap[l.m i]?) ∨ (left (.int .i64 i) = false ∧ ∃ n, SetI wr (l.m i) n (x.X ++ L) ∧ n ≤ s.nb + 5000)
def TkP (w : World) (l : Bl) (s : Bs) (L : List Int) (w' : World) : Prop :=
  Bp w.heap.size (OfM l s) w w' ∧ ∀ i x, s.F i = some x → ∃ n, SetI w' (l.m i) n (x.X ++ L) ∧ n ≤ s.nb + 5000
theorem ptR_c (v : Value) (y : DataW Unit × List MemPlace) (h : ptR v = some y) : ∃ c : Option Nat, v = .pointer (c.map fun q => ⟨q, 0, none⟩) := by
  rcases ptR_inv h with ⟨q, rfl, _⟩ | ⟨rfl, _⟩
  · exact ⟨some q, rfl⟩
  · exact ⟨none, rfl⟩
def TkJ (X L : List Int) (b n : Nat) (W2 : World) (i : Value) (wr : World) : Prop :=
  ∃ k : Nat, k ≤ L.length ∧ i = .int .i64 k ∧ SetI wr b (n + k) (X ++ L.take k) ∧ W2.grownBy wr (some b)

set_option maxHeartbeats 8000000 in
set_option maxRecDepth 100000 in
theorem take_any {w : World} {base p : Nat} {l : Bl} {s : Bs} (h : BeL w base p l s) (hnb : s.nb ≤ 100000000) {v : Value} {L : List Int} (hv : IsI w v L) (hL : L.length ≤ 5000) (h64 : ∀ x ∈ L, in64 x) :
    Calls Tryz.prog 26 #[.pointer (some ⟨p, 0, none⟩), v] w fun e w' => e = .returned (.tuple #[]) ∧ TkP w l s L w' := by
  obtain ⟨av, cv, rfl⟩ := hv.sl
  have y0 : w.cell? ⟨p, 4, none⟩ = some (.map (some l.mb)) := cell_at h.cs rfl
  obtain ⟨D, hown, hsz, hhas, hat⟩ := id h.mp
  have HB : Hid (BeL w base p l s ∧ IsI w (.slice av L.length cv) L ∧ (∀ x ∈ L, in64 x)) := ⟨h, hv, h64⟩
  have HD : Hid ((∀ x, has D (.int .i64 x) = ((s.F x).map fun _ => l.q x).isSome) ∧ ∀ x q z, ((s.F x).map fun _ => l.q x) = some q → D.atKey (.int .i64 x) z = .lit (.int .i64 q)) := ⟨hhas, hat⟩
  have hmb := hown.lt
  clear hhas hat h hv h64 hsz
  go_enter Tryz.func26, Tryz.ntmps26
  go_wp2_with (first | (at_range; refine wpList_range_own _ rfl _ 76 rfl 3 80 keyedI Tryz.underlying76 _ l.mb s.op _ rfl hown ?_; intro w0 hrg0 hg0 hs0))
  go_frame
  clear hown
  go_loopw [5] (fun _ wr => TkI w l s L D w.heap.size wr) (fun _ wr => wr.rangeLeft l.mb w.heap.size)
  case atStart =>
    refine ⟨_, _, hrg0, fun kl h => h, .of_grown hg0 (Nat.le_refl _) (fun g hg => by cases hg), fun i x hx => .inl ⟨by rw [HD.out.1 i, hx]; rfl, ?_⟩⟩
    obtain ⟨_, l2, _⟩ := (HB.out.1.ss i x hx).1.lts
    exact hg0.block _ l2 (by simp)
  case round =>
    obtain ⟨left, cnt, hrg, hlh, hbp, hst⟩ := hrel
    have hlt := hbp.size
    have hrlt := hrg.lt
    go_wp2_with (first | (at_next; refine wpList_next_ranges _ rfl _ rfl 3 keyedI ptR (fun x : Int => .int .i64 x) (fun c : Option Nat => .pointer (c.map fun q => ⟨q, 0, none⟩)) (fun key kl hk => by obtain ⟨x, e, _⟩ := Maps.keyOf_int_inv Tryz.underlying3 hk; exact ⟨x, e⟩) ptR_c l.mb w.heap.size s.op _ left cnt rfl hrg ?_ ?_))
    · intro h0 hl0
      have HR : Hid (TkP w l s L wr) := ⟨hbp, fun i x hx => by
        rcases hst i x hx with ⟨e, _⟩ | ⟨_, r⟩
        · rw [hl0] at e; cases e
        · exact r⟩
      clear hrg hlh hbp hst
      go_wp2
      go_end0
      exact ⟨rfl, HR.out⟩
    · intro x c kl y1 y2 w1 cnt1 hkey hlx hv1 hat1 hrg1 hlt1 hg1 hs1 hen
      obtain ⟨x', e1, hkl, _⟩ := Maps.keyOf_int_inv Tryz.underlying3 hkey
      have e1' : x = x' := by injection e1
      subst e1' hkl
      have hh := hlh _ hlx
      rw [HD.out.1 x] at hh
      obtain ⟨xs, hxs⟩ : ∃ xs, s.F x = some xs := by
        cases e : s.F x with
        | none => rw [e] at hh; cases hh
        | some xs => exact ⟨xs, rfl⟩
      have hy : y1 = .lit (.int .i64 (l.q x)) := by
        rw [← hat1 (.lit (.bool false))]
        exact HD.out.2 x _ _ (by rw [hxs]; rfl)
      obtain rfl : c = some (l.q x) := by
        rcases ptR_inv hv1 with ⟨q, e, e0⟩ | ⟨e, e0⟩
        · have e2 := congrArg litI ((congrArg Prod.fst e0).symm.trans hy)
          simp only [litI, Option.some.injEq] at e2
          have e3 : q = l.q x := Int.ofNat.inj e2
          subst e3
          cases c with
          | none => cases e
          | some q' =>
            injection e with e
            have := congrArg (fun a => a.map Addr.block) e
            simp at this
            rw [this]
        · have e2 := congrArg litI ((congrArg Prod.fst e0).symm.trans hy)
          simp [litI] at e2
      obtain ⟨hbe, hI, h64⟩ := HB.out
      obtain ⟨hsn, hmm⟩ := hbe.ss x xs hxs
      obtain ⟨l1, l2, _, l4, l5⟩ := hsn.lts
      obtain ⟨c0, c1, c3, c4, _, _, n, _, hq, _, _, _, hS, hn, _, _⟩ := hsn
      have hnm : ∀ b t, Ty w b t → ¬ OfM l s b := fun b t hb ⟨i, hi, e⟩ => by
        obtain ⟨z, hz⟩ := Option.ne_none_iff_exists'.1 hi
        exact Ty.nem hb (hbe.ss i z hz).1.lts.2.2.2.2 e
      have hq1 : w1.heap[l.q x]? = some (.cells #[c0, c1, l.v x, c3, c4, .map (some (l.m x))] 83 (0, 0)) := (hg1.block _ (by omega) (fun e => by injection e with e; omega)).trans ((hbp.block _ l1 (hnm _ _ l4)).trans hq)
      have hS1 : SetI w1 (l.m x) n xs.X := by
        rcases hst x xs hxs with ⟨_, e⟩ | ⟨e, _⟩
        · exact hS.of_block ((hg1.block _ (by omega) (fun e => by injection e with e; omega)).trans e)
        · rw [hlx] at e; cases e
      have hIc : L = [] ∨ ∃ g, av = some ⟨g, 0, none⟩ ∧ g < w.heap.size ∧ ∀ k u, L[k]? = some u → w1.cell? ⟨g, k, none⟩ = some (.int .i64 u) := by
        rcases hI with ⟨_, e⟩ | ⟨g, cap, e, _, hgl, hc⟩
        · exact .inl e
        · injection e with e1 _ _
          refine .inr ⟨g, e1, hgl, fun k u hu => ?_⟩
          have hcl := hc k u hu
          have hgo : ¬ OfM l s g := fun ⟨i, hi, e⟩ => by
            obtain ⟨z, hz⟩ := Option.ne_none_iff_exists'.1 hi
            obtain ⟨es, cc, e5⟩ := (hbe.ss i z hz).1.lts.2.2.2.2
            rw [← e] at e5
            simp [World.cell?, e5] at hcl
          rw [← hcl]
          exact World.cell?_of_block ((hg1.block g (by omega) (fun e => by injection e with e; omega)).trans (hbp.block g hgl hgo))
      have HS1 := Lib.hid (And.intro hS1 hn)
      have HQ1 := Lib.hid hq1
      have HI := Lib.hid (And.intro hIc h64)
      have hszm : l.m x < w1.heap.size := by omega
      have hqm : l.q x ≠ l.m x := Ty.nem l4 l5
      have HE : Hid (∀ wr2, SetI wr2 (l.m x) (n + L.length) (xs.X ++ L) → w1.grownBy wr2 (some (l.m x)) → TkI w l s L D w.heap.size wr2 ∧ wr2.rangeLeft l.mb w.heap.size < wr.rangeLeft l.mb w.heap.size) := fun wr2 hS2 hg2 => by
        have hk2 := hrg1.kept hg2 (fun e => hmm (by injection e with e; exact e.symm)) (fun e => by injection e with e; omega)
        refine ⟨⟨_, cnt1, hk2, fun kl hkl => hlh kl (by simp at hkl; exact hkl.1), (hbp.trans (.of_grown hg1 (by omega) (fun g hg => .inr (by injection hg with hg; omega)))).trans (.of_grown hg2 (by omega) (fun g hg => .inl ⟨x, by rw [hxs]; exact fun h => (by cases h), by injection hg with hg; exact hg.symm⟩)), fun i z hz => ?_⟩, ?_⟩
        · by_cases hix : i = x
          · subst hix
            rw [hxs] at hz
            rw [← Option.some.inj hz]
            exact .inr ⟨by simp [Lit.sameKey], n + L.length, hS2, by omega⟩
          · have hap := (hbe.ap i x (by rw [hz]; exact fun h => (by cases h)) (by rw [hxs]; exact fun h => (by cases h)) hix).2.1
            have hil := (hbe.ss i z hz).1.lts.2.1
            have hb2 : wr2.heap[l.m i]? = wr.heap[l.m i]? := (hg2.block _ (by omega) (fun e => hap (by injection e))).trans (hg1.block _ (by omega) (fun e => by injection e with e; omega))
            have hsk : (Lit.int .i64 i).sameKey (.int .i64 x) = false := by simp [Lit.sameKey, hix]
            rcases hst i z hz with ⟨a, b⟩ | ⟨a, n', b1, b2⟩
            · exact .inl ⟨by simp [a, hsk], hb2.trans b⟩
            · exact .inr ⟨by simp [a], n', b1.of_block hb2, b2⟩
        · rw [hk2.left_eq, hrg.left_eq]; exact hlt1
      clear hrg hlh hbp hst hrg1 hS1 hq1 hI hS hq hIc h64 hbe hnm hn hat1 hv1 hy hkey hh hg1
      simp only [Option.map_some] at hen
      go_wp2
      go_loopw [19] (fun i wr => TkJ xs.X L (l.m x) n w1 i wr) (fun i _ => L.length - (intOf i).toNat)
      case atStart => exact ⟨0, Nat.zero_le _, rfl, by simpa using HS1.out.1, ⟨rfl, rfl, rfl, Nat.le_refl _, fun _ _ _ => rfl⟩⟩
      case round =>
        obtain ⟨k, hk, rfl, hSm, hgm⟩ := hrel
        by_cases hml : k < L.length
        · obtain ⟨z, hz⟩ : ∃ z, L[k]? = some z := ⟨L[k], by simp [hml]⟩
          rcases HI.out.1 with rfl | ⟨g, rfl, hgl, hcl⟩
          · exact absurd hml (by simp)
          have z0 := hcl k z hz
          have hgne : g ≠ l.m x := fun e => by
            have := hSm.no_cell
            obtain ⟨es, cc, e5⟩ := HS1.out.1.is_map
            rw [← e] at e5
            simp [World.cell?, e5] at z0
          have z1 : wr.cell? ⟨g, k, none⟩ = some (.int .i64 z) := by
            rw [← z0]; exact World.cell?_of_block (hgm.block g (by omega) (fun e => hgne (Option.some.inj e)))
          have q1 := (hgm.block (l.q x) (by omega) (fun e => hqm (Option.some.inj e))).trans HQ1.out
          have q5 : wr.cell? ⟨l.q x, 5, none⟩ = some (.map (some (l.m x))) := cell_at q1 rfl
          have hn2 : n + k < maxLen := by
            have := HS1.out.2
            unfold maxLen; omega
          obtain ⟨w3, hr3, hs3, hg3⟩ := setI_put hSm hn2 (HI.out.2 z (List.mem_of_getElem? hz))
          have HR : Hid (TkJ xs.X L (l.m x) n w1 (.int .i64 ((k + 1 : Nat) : Int)) w3) := by
            refine ⟨k + 1, by omega, rfl, ?_, grown_trans hgm hg3⟩
            rw [takeK hz, ← List.append_assoc, ← Nat.add_assoc]
            exact hs3
          clear hSm hgm hs3 hg3 hz z0 hcl hn2 q1
          go_wp2
          refine ⟨?_, ?_⟩
          · first | exact HR.out | ((repeat apply Exists.intro); refine ⟨?_, rfl⟩; exact HR.out)
          · simp [intOf]
            try omega
        · obtain rfl : k = L.length := by omega
          rw [List.take_length] at hSm
          obtain ⟨hE1, hE2⟩ := HE.out wr hSm hgm
          have HR := Lib.hid (And.intro hE1 hE2)
          clear hSm hgm hE1 hE2
          go_wp2
          first | exact HR.out | ((repeat apply Exists.intro); exact HR.out) | (refine ⟨?_, HR.out.2⟩; first | exact HR.out.1 | ((repeat apply Exists.intro); refine ⟨?_, rfl⟩; exact HR.out.1))
end Go.Proofs.YtikjmingkadjcaaGreatDoor

/-
  What a schema asks hangs on what its kinds say alone.
-/
namespace Go.Proofs.YtikjmingkadjcaaGreatDoor
set_option linter.unusedVariables false
set_option linter.unusedSimpArgs false

def Kd.cz (k : Kd) : Kd := ⟨k.nm, k.of, k.fs, .nilIface, .nilIface⟩
theorem idxK_c (nm : Nm) : ∀ (L : List Kd) (i : Nat), idxK nm (L.map Kd.cz) i = idxK nm L i
  | [], _ => rfl
  | k :: r, i => by
    rw [List.map_cons, idxK, idxK, idxK_c nm r]
    rfl
theorem oChk_c (A : List Kd) : ∀ (of seen : List Nm), oChk (A.map Kd.cz) seen of = oChk A seen of
  | [], _ => rfl
  | n :: r, seen => by rw [oChk, oChk, idxK_c, oChk_c A r]
theorem back_c : ∀ (L : List Kd) (ns : List Nm), back (L.map Kd.cz) ns = (back L ns).map Kd.cz
  | [], _ => rfl
  | k :: r, ns => by
    rw [List.map_cons, back, back]
    show (if hasN ns k.nm = true then k.cz :: back (r.map Kd.cz) (ns ++ k.of) else back (r.map Kd.cz) ns) = _
    rw [back_c r, back_c r]
    split <;> rfl
theorem kinOf_c (L : List Kd) : kinOf (L.map Kd.cz) = (kinOf L).map Kd.cz := by
  unfold kinOf
  rw [List.getLast?_map]
  cases L.getLast? with
  | none => rfl
  | some k =>
    show (back (L.map Kd.cz).reverse [k.nm]).reverse = ((back L.reverse [k.nm]).reverse).map Kd.cz
    rw [← List.map_reverse, back_c, List.map_reverse]
theorem fieldsOf_c (K : List Kd) : fieldsOf (K.map Kd.cz) = fieldsOf K := by
  unfold fieldsOf
  rw [List.flatMap_map]
  rfl
theorem kErr_c (A : List Kd) (k : Kd) : kErr (A.map Kd.cz) k.cz = kErr A k := by
  have e : kinOf (A.map Kd.cz ++ [k.cz]) = (kinOf (A ++ [k])).map Kd.cz := by rw [← kinOf_c, List.map_append]; rfl
  unfold kErr
  rw [show k.cz.nm = k.nm from rfl, show k.cz.of = k.of from rfl, show k.cz.fs = k.fs from rfl, idxK_c, oChk_c, e, fieldsOf_c]
theorem ksGo_c : ∀ (L A : List Kd), ksGo (A.map Kd.cz) (L.map Kd.cz) = ksGo A L
  | [], _ => rfl
  | k :: r, A => by
    rw [List.map_cons, ksGo, ksGo, kErr_c]
    have := ksGo_c r (A ++ [k])
    rw [List.map_append] at this
    rw [show A.map Kd.cz ++ [k.cz] = A.map Kd.cz ++ [k].map Kd.cz from rfl, this]
    rfl
theorem ksErr_c (L : List Kd) : ksErr (L.map Kd.cz) = ksErr L := by
  unfold ksErr
  rw [List.length_map]
  have := ksGo_c L []
  rw [show (([] : List Kd).map Kd.cz) = [] from rfl] at this
  rw [this]
theorem bErr_c (L : List Kd) (A : List Bd) (x : Bd) : bErr (L.map Kd.cz) A x = bErr L A x := by
  unfold bErr hasK
  rw [idxK_c, idxK_c]
theorem bsGo_c (L : List Kd) : ∀ (B A : List Bd), bsGo (L.map Kd.cz) A B = bsGo L A B
  | [], _ => rfl
  | x :: r, A => by rw [bsGo, bsGo, bErr_c, bsGo_c L r]
theorem sErr_c (L : List Kd) (B : List Bd) : sErr (L.map Kd.cz) B = sErr L B := by
  unfold sErr
  rw [ksErr_c, bsGo_c]
theorem cz_kq {L L' : List Kd} (h : L.map kq3 = L'.map kq3) : L.map Kd.cz = L'.map Kd.cz := by
  have e : ∀ M : List Kd, M.map Kd.cz = (M.map kq3).map fun q => ⟨q.1, q.2.1, q.2.2, .nilIface, .nilIface⟩ := fun M => by rw [List.map_map]; rfl
  rw [e, e, h]
theorem kin_c (L : List Kd) (a : Nm) : kin (L.map Kd.cz) a = (kin L a).map Kd.cz := by
  unfold kin nmAt
  rw [idxK_c, ← List.map_take, kinOf_c]
theorem nms_c (K : List Kd) : nms (K.map Kd.cz) = nms K := by
  unfold nms
  rw [List.map_map]
  rfl
theorem fields_c (L : List Kd) (a : Nm) : fields (L.map Kd.cz) a = fields L a := by
  unfold fields
  rw [kin_c, fieldsOf_c]
theorem shp_c (L : List Kd) (B : List Bd) (a : Nm) : shp (L.map Kd.cz) B a = shp L B a := by
  unfold shp
  rw [kin_c, nms_c, fields_c]
theorem shO_c (L : List Kd) (B : List Bd) (M : List Kd) : shO (L.map Kd.cz) B (M.map Kd.cz) = shO L B M := by
  unfold shO
  rw [List.foldl_map]
  congr 1
  funext F k
  rw [shp_c]
  rfl
theorem allF_k (L : List Kd) (B : List Bd) (N : List Nd) (T : List Te) : allF (L.map Kd.cz) B N T = allF L B N T := by
  unfold allF
  rw [shO_c]
theorem cfE_c (L : List Kd) (B : List Bd) (N : List Nd) (T : List Te) : cfE L B (cN N) T = cfE L B N T := by
  unfold cfE confB inE
  rw [allF_c, gErr_c]
theorem sErr_kq {L L' : List Kd} (h : L.map kq3 = L'.map kq3) (B : List Bd) : sErr L B = sErr L' B := by rw [← sErr_c L, ← sErr_c L', cz_kq h]
theorem confB_kq {L L' : List Kd} (h : L.map kq3 = L'.map kq3) (B : List Bd) (N : List Nd) (T : List Te) : confB L B N T = confB L' B N T := by
  unfold confB inE
  rw [sErr_kq h, ← allF_k L, ← allF_k L', cz_kq h]
theorem confB_c (L : List Kd) (B : List Bd) (N : List Nd) (T : List Te) : confB L B (cN N) T = confB L B N T := by
  unfold confB inE
  rw [allF_c, gErr_c]
end Go.Proofs.YtikjmingkadjcaaGreatDoor
