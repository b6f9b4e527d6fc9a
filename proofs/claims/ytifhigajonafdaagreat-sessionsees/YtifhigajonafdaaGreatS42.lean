/-
  The walks of Graph, Age, Ids.
-/
import Derived.Test.YtifhigajonafdaaGreatS41
namespace Go.Proofs.YtifhigajonafdaaGreat
open Go.RowKit Go.Maps Go.Sort Go.Shelf
set_option linter.unusedVariables false
set_option linter.unusedSimpArgs false

set_option maxHeartbeats 1000000 in
theorem sage_any {w : World} {base p : Nat} {s : Bs} (h : Be w base p s) : Calls Tryz.prog 12 #[.pointer (some ⟨p, 0, none⟩)] w fun e w' => e = .returned (.int .i64 s.age) ∧ w' = w := by
  obtain ⟨l, hl⟩ := h
  have y0 : w.cell? ⟨p, 6, none⟩ = some (.int .i64 s.age) := cell_at hl.cs rfl
  clear hl
  go_enter Tryz.func12, Tryz.ntmps12
  go_wp2
  go_ret
  exact ⟨rfl, rfl⟩
set_option maxHeartbeats 4000000 in
set_option maxRecDepth 100000 in
theorem sgraph_any {w : World} {base p : Nat} {s : Bs} (h : Be w base p s) (hok : BsOk s) (hb : base ≤ w.heap.size) : Calls Tryz.prog 11 #[.pointer (some ⟨p, 0, none⟩)] w fun e w' => ∃ a n c a' n' c' M, e = .returned (.agg #[.slice a n c, .slice a' n' c']) ∧ (cN M = s.N ∧ OwnNs w' w.heap.size (.slice a n c) M ∧ OwnTs w' w.heap.size (.slice a' n' c') s.T) ∧ Below w.heap.size w w' := by
  obtain ⟨l, hl⟩ := h
  obtain ⟨hs0, hg0, _⟩ := cfE_zero hok.c0
  have hgM : gErr l.M s.T = 0 := by rw [← gErr_c, hl.gr.1]; exact hg0
  obtain ⟨l60, l120, _⟩ := gErr_lens hgM
  obtain ⟨an, cn, hvn⟩ := own_slice hl.gr.2.1.1
  obtain ⟨at', ct, hvt⟩ := own_slice hl.gr.2.2
  have hcs := hl.cs
  have hN := hl.gr.2.1
  have hT := hl.gr.2.2
  rw [hvn, hvt] at hcs
  rw [hvn] at hN
  rw [hvt] at hT
  obtain ⟨W0, hW0⟩ : ∃ W0, W0 = w.alloc (.cells #[.slice none 0 0, .slice none 0 0] 29) := ⟨_, rfl⟩
  have hB0 : Below w.heap.size w W0 := by rw [hW0]; exact b_alloc (Below.refl _ _) _
  have n0 : W0.heap[w.heap.size]? = some (.cells #[.slice none 0 0, .slice none 0 0] 29 (0, 0)) := by rw [hW0]; exact heap_alloc_new w _
  have hplt := (Array.getElem?_eq_some_iff.1 hcs).1
  have hcs0 := (hB0.block p hplt).trans hcs
  have y0 : W0.cell? ⟨p, 2, none⟩ = some (.slice an l.M.length cn) := cell_at hcs0 rfl
  have y1 : W0.cell? ⟨p, 3, none⟩ = some (.slice at' s.T.length ct) := cell_at hcs0 rfl
  have c : Calls Tryz.prog 17 #[.agg #[.slice an l.M.length cn, .slice at' s.T.length ct]] W0 fun e w' => ∃ a n c a' n' c' M, e = .returned (.agg #[.slice a n c, .slice a' n' c']) ∧ (cN M = s.N ∧ OwnNs w' W0.heap.size (.slice a n c) M ∧ OwnTs w' W0.heap.size (.slice a' n' c') s.T) ∧ Below W0.heap.size W0 w' := (copied_any ((hN.kt (.of_below hB0) (.of_below hB0)).isN) ((hT.kt (.of_below hB0)).isT) l60 l120 (fun n hn => by have := gErr_rc8 hgM n hn; omega)).mono fun e w' hP => by
    obtain ⟨un, ut, M, rfl, q1, q2, q3, q4⟩ := hP
    obtain ⟨a, c, e1⟩ := own_slice q2.1
    obtain ⟨a', c', e2⟩ := own_slice q3
    subst e1 e2
    exact ⟨_, _, _, _, _, _, M, rfl, ⟨by rw [← hl.gr.1]; exact q1, q2, q3⟩, q4⟩
  have hs0' : W0.heap.size = w.heap.size + 1 := by rw [hW0]; simp
  have HB := Lib.hid (And.intro hB0 (And.intro n0 hs0'))
  have hne : ¬ p = w.heap.size := by omega
  clear hN hT hcs hcs0 hvn hvt hl hok hB0 n0 hgM hg0 hs0 hs0'
  go_enter Tryz.func11, Tryz.ntmps11
  go_upto_region 1 with fail
  rw [← hW0]
  clear hW0
  go_wp2_with (first | (go_at_call 17; refine c.mono ?_; rintro e W1 ⟨a1, n1, c1, a2, n2, c2, M, rfl, hM, hB1⟩; have m0 := (hB1.block _ (by have := HB.out.2.2; omega)).trans HB.out.2.1; have z0 : W1.cell? ⟨w.heap.size, 0, none⟩ = some (.slice none 0 0) := cell_at m0 rfl; have z1 : W1.cell? ⟨w.heap.size, 1, none⟩ = some (.slice none 0 0) := cell_at m0 rfl; have f0 : W1.frozen? ⟨w.heap.size, 0, none⟩ = false := frz_at m0; have f1 : W1.frozen? ⟨w.heap.size, 1, none⟩ = false := frz_at m0; have HX := Lib.hid (And.intro m0 (And.intro hM hB1)); clear m0 hM hB1))
  obtain ⟨m0, ⟨r1, r2, r3⟩, hB1⟩ := HX.out
  have hle := HB.out.2.2
  have kz : ∀ t, 29 ≠ t → Kt t W1 ((W1.setCell ⟨w.heap.size, 0, none⟩ (.slice a1 n1 c1)).setCell ⟨w.heap.size, 1, none⟩ (.slice a2 n2 c2)) := fun t ht => ((Kt.refl _ _).ty ⟨_, m0⟩ ht _ _).ty (Ty.set ⟨_, m0⟩ _ _ _) ht _ _
  refine bodyPost_ret (v := .agg #[.slice a1 n1 c1, .slice a2 n2 c2]) ?_ rfl ⟨_, _, _, _, _, _, M, rfl, ⟨r1, (r2.kt (kz _ (by decide)) (kz _ (by decide))).base (by omega), own_base (r3.kt (kz _ (by decide))) (by omega)⟩, ((on1K HB.out.1 hB1 (Nat.le_refl _)).setCell (Nat.le_refl _) _).setCell (Nat.le_refl _) _⟩
  simp [results, Tryz.results11, go_sem, z0, z1]

shelf_lay_g SlLaysZI.n7 Ggz 7 at Tryz 19 as keysSs
theorem skeys_any (mb : Option Nat) (W : World) : Calls Tryz.prog 19 #[.map mb] W fun e w' => e = .returned (.func (.func 33) #[] #[.pointer (some ⟨W.heap.size, 0, none⟩)]) ∧ w' = W.alloc (.cells #[.map mb] 71) :=
  (callsIn_wide (n := 5)).1 (AnyZI.keys_in keysSs Fence.wide 5 trivial rfl mb W)
theorem ssorted_any {H : Type} (b nn : Nat) (D0 : DataW H) (R : Value → Option (DataW H × List MemPlace)) (w : World) (hown : w.ownsMap Tryz.prog 3 R b nn D0) (hmax : Maps.size D0 ≤ maxLen) (hbytes : Maps.size D0 * 8 ≤ 140737488355328) :
    Calls Tryz.prog 18 #[.func (.func 33) #[] #[.pointer (some ⟨w.heap.size, 0, none⟩)]] (w.alloc (.cells #[.map (some b)] 71)) fun e w' => ∃ (v : Value) (ss : List Int), e = .returned v ∧ ss.Perm (intKeys D0) ∧
      w'.ownsRow w.heap.size 3 1 v ss.length ((ss.mergeSort (fun x y => decide (x ≤ y))).map encZ) ∧ Below w.heap.size w w' := by
  refine (callsIn_wide (n := 5)).1 ?_
  have hbl := hown.lt
  have hseq : SeqGives Fence.wide 2 Tryz.prog 33 #[.pointer (some ⟨w.heap.size, 0, none⟩)] encZ (fun ss => ss.Perm (intKeys D0)) (Maps.size D0) (w.alloc (.cells #[.map (some b)] 71)) :=
    AnyZI.keys_gives (ρ := keysSs_ren) { keysSs with } Fence.wide _ trivial rfl (by omega) w.heap.size b nn D0 _ (by simp) (by simp) (by
      obtain ⟨es, clock, hb, Ft, hs, hD⟩ := hown
      exact ⟨es, clock, (Below.heap_alloc _ _ b hbl).trans hb, Ft, hs, hD⟩)
  have cS := AnyZI.sorted_in sortedNr Fence.wide 5 trivial trivial trivial trivial rfl (by omega) (sortsNr _) (enters_of Tryz.func32 (by kernel_rfl) rfl) 33 #[.pointer (some ⟨w.heap.size, 0, none⟩)] trivial (enters_of Tryz.func33 (by kernel_rfl) rfl) _ _ hmax hbytes _ hseq
  change CallsIn _ _ Tryz.prog 18 _ _ _ at cS
  refine cS.mono ?_
  rintro e w' ⟨v, ss, rfl, hS, hrow, _, hb⟩
  exact ⟨v, ss, rfl, hS, own_base hrow (by simp), ((Below.refl _ w).alloc (Nat.le_refl _) _).trans (hb.mono (by simp))⟩
set_option maxHeartbeats 1000000 in
theorem sids_any {w : World} {base p : Nat} {s : Bs} (h : Be w base p s) (hok : BsOk s) : Calls Tryz.prog 6 #[.pointer (some ⟨p, 0, none⟩)] w fun e w' => ∃ a c, e = .returned (.slice a s.cnt c) ∧ Below w.heap.size w w' := by
  obtain ⟨l, hl⟩ := h
  have y0 : w.cell? ⟨p, 4, none⟩ = some (.map (some l.mb)) := cell_at hl.cs rfl
  obtain ⟨D, hown, hsz, _⟩ := hl.mp
  have hle := hown.size_le
  have hon := hok.on
  have c1 := skeys_any (some l.mb) w
  have c2 := ssorted_any l.mb s.op D ptR w hown (by unfold maxLen; omega) (by omega)
  have hlen : (intKeys D).length = s.cnt := by
    obtain ⟨es, rfl⟩ := hown.isMap
    rw [← hsz]
    simp [intKeys, Maps.size]
  have HL := Lib.hid hlen
  clear hown hsz hl hlen hle hon hok
  go_enter Tryz.func6, Tryz.ntmps6
  go_wp2_with (first | (go_at_call 19; refine c1.mono ?_; rintro e W3 ⟨rfl, rfl⟩) | (go_at_call 18; refine c2.mono ?_; rintro e W4 ⟨v4, ss, rfl, hp4, ho4, hB4⟩; have HF := Lib.hid (And.intro hp4 (And.intro ho4 hB4)); clear hp4 ho4 hB4))
  go_ret
  obtain ⟨hp4, ho4, hB4⟩ := HF.out
  obtain ⟨a, c, e⟩ := own_slice ho4
  exact ⟨a, c, by rw [← HL.out, ← hp4.length_eq, ← e]; rfl, hB4⟩
end Go.Proofs.YtifhigajonafdaaGreat

/-
  The walk of take.
-/
namespace Go.Proofs.YtifhigajonafdaaGreat
open Go.RowKit Go.Maps
set_option linter.unusedVariables false
set_option linter.unusedSimpArgs false

structure Bp (B : Nat) (P : Nat → Prop) (w w' : World) : Prop where
  os : w'.os = w.os
  tape : w'.tape = w.tape
  output : w'.output = w.output
  size : w.heap.size ≤ w'.heap.size
  block : ∀ k, k < B → ¬ P k → w'.heap[k]? = w.heap[k]?
theorem Bp.refl (B : Nat) (P : Nat → Prop) (w : World) : Bp B P w w := ⟨rfl, rfl, rfl, Nat.le_refl _, fun _ _ _ => rfl⟩
theorem Bp.trans {B : Nat} {P : Nat → Prop} {a b c : World} (h : Bp B P a b) (k : Bp B P b c) : Bp B P a c :=
  ⟨k.os.trans h.os, k.tape.trans h.tape, k.output.trans h.output, Nat.le_trans h.size k.size, fun x hx hp => (k.block x hx hp).trans (h.block x hx hp)⟩
theorem Bp.of_grown {B : Nat} {P : Nat → Prop} {w w' : World} {r : Option Nat} (h : w.grownBy w' r) (hB : B ≤ w.heap.size) (hr : ∀ g, r = some g → P g ∨ B ≤ g) : Bp B P w w' :=
  ⟨h.os, h.tape, h.output, h.size, fun k hk hp => h.block k (Nat.lt_of_lt_of_le hk hB) (fun e => by
    rcases hr k e.symm with h1 | h1
    · exact hp h1
    · omega)⟩
def Ss.tk (x : Ss) (L : List Int) : Ss := ⟨x.gN, x.gT, x.O, x.eN, x.eT, x.X ++ L⟩
def OfM (l : Bl) (s : Bs) (b : Nat) : Prop := ∃ i, s.F i ≠ none ∧ b = l.m i
def TkI (w : World) (l : Bl) (s : Bs) (L : List Int) (D : DataW Unit) (r : Nat) (wr : World) : Prop :=
  ∃ left cnt, wr.ranges Tryz.prog 3 ptR l.mb r s.op D left cnt ∧ (∀ kl, left kl = true → has D kl = true) ∧ Bp w.heap.size (OfM l s) w wr ∧
    ∀ i x, s.F i = some x → (left (.int .i64 i) = true ∧ wr.heap[l.m i]? = w.heap[l.m i]?) ∨ (left (.int .i64 i) = false ∧ ∃ n, SetI wr (l.m i) n (x.X ++ L) ∧ n ≤ s.nb + 5000)
def TkP (w : World) (l : Bl) (s : Bs) (L : List Int) (w' : World) : Prop :=
  Bp w.heap.size (OfM l s) w w' ∧ ∀ i x, s.F i = some x → ∃ n, SetI w' (l.m i) n (x.X ++ L) ∧ n ≤ s.nb + 5000
theorem ptR_c (v : Value) (y : DataW Unit × List MemPlace) (h : ptR v = some y) : ∃ c : Option Nat, v = .pointer (c.map fun q => ⟨q, 0, none⟩) := by
  rcases ptR_inv h with ⟨q, rfl, _⟩ | ⟨rfl, _⟩
  · exact ⟨some q, rfl⟩
  · exact ⟨none, rfl⟩
def TkJ (X L : List Int) (b n : Nat) (W2 : World) (i : Value) (wr : World) : Prop :=
  ∃ k : Nat, k ≤ L.length ∧ i = .int .i64 k ∧ SetI wr b (n + k) (X ++ L.take k) ∧ W2.grownBy wr (some b)

set_option maxHeartbeats 8000000 in
set_option maxRecDepth 100000 in
theorem take_any {w : World} {base p : Nat} {l : Bl} {s : Bs} (h : BeL w base p l s) (hnb : s.nb ≤ 100000000) {v : Value} {L : List Int} (hv : IsI w v L) (hL : L.length ≤ 5000) (h64 : ∀ x ∈ L, in64 x) :
    Calls Tryz.prog 26 #[.pointer (some ⟨p, 0, none⟩), v] w fun e w' => e = .returned (.tuple #[]) ∧ TkP w l s L w' := by
  obtain ⟨av, cv, rfl⟩ := hv.sl
  have y0 : w.cell? ⟨p, 4, none⟩ = some (.map (some l.mb)) := cell_at h.cs rfl
  obtain ⟨D, hown, hsz, hhas, hat⟩ := id h.mp
  have HB : Hid (BeL w base p l s ∧ IsI w (.slice av L.length cv) L ∧ (∀ x ∈ L, in64 x)) := ⟨h, hv, h64⟩
  have HD : Hid ((∀ x, has D (.int .i64 x) = ((s.F x).map fun _ => l.q x).isSome) ∧ ∀ x q z, ((s.F x).map fun _ => l.q x) = some q → D.atKey (.int .i64 x) z = .lit (.int .i64 q)) := ⟨hhas, hat⟩
  have hmb := hown.lt
  clear hhas hat h hv h64 hsz
  go_enter Tryz.func26, Tryz.ntmps26
  go_wp2_with (first | (at_range; refine wpList_range_own _ rfl _ 71 rfl 3 75 keyedI Tryz.underlying71 _ l.mb s.op _ rfl hown ?_; intro w0 hrg0 hg0 hs0))
  go_frame
  clear hown
  go_loopw [5] (fun _ wr => TkI w l s L D w.heap.size wr) (fun _ wr => wr.rangeLeft l.mb w.heap.size)
  case atStart =>
    refine ⟨_, _, hrg0, fun kl h => h, .of_grown hg0 (Nat.le_refl _) (fun g hg => by cases hg), fun i x hx => .inl ⟨by rw [HD.out.1 i, hx]; rfl, ?_⟩⟩
    obtain ⟨_, l2, _⟩ := (HB.out.1.ss i x hx).1.lts
    exact hg0.block _ l2 (by simp)
  case round =>
    obtain ⟨left, cnt, hrg, hlh, hbp, hst⟩ := hrel
    have hlt := hbp.size
    have hrlt := hrg.lt
    go_wp2_with (first | (at_next; refine wpList_next_ranges _ rfl _ rfl 3 keyedI ptR (fun x : Int => .int .i64 x) (fun c : Option Nat => .pointer (c.map fun q => ⟨q, 0, none⟩)) (fun key kl hk => by obtain ⟨x, e, _⟩ := Maps.keyOf_int_inv Tryz.underlying3 hk; exact ⟨x, e⟩) ptR_c l.mb w.heap.size s.op _ left cnt rfl hrg ?_ ?_))
    · intro h0 hl0
      have HR : Hid (TkP w l s L wr) := ⟨hbp, fun i x hx => by
        rcases hst i x hx with ⟨e, _⟩ | ⟨_, r⟩
        · rw [hl0] at e; cases e
        · exact r⟩
      clear hrg hlh hbp hst
      go_wp2
      go_end0
      exact ⟨rfl, HR.out⟩
    · intro x c kl y1 y2 w1 cnt1 hkey hlx hv1 hat1 hrg1 hlt1 hg1 hs1 hen
      obtain ⟨x', e1, hkl, _⟩ := Maps.keyOf_int_inv Tryz.underlying3 hkey
      have e1' : x = x' := by injection e1
      subst e1' hkl
      have hh := hlh _ hlx
      rw [HD.out.1 x] at hh
      obtain ⟨xs, hxs⟩ : ∃ xs, s.F x = some xs := by
        cases e : s.F x with
        | none => rw [e] at hh; cases hh
        | some xs => exact ⟨xs, rfl⟩
      have hy : y1 = .lit (.int .i64 (l.q x)) := by
        rw [← hat1 (.lit (.bool false))]
        exact HD.out.2 x _ _ (by rw [hxs]; rfl)
      obtain rfl : c = some (l.q x) := by
        rcases ptR_inv hv1 with ⟨q, e, e0⟩ | ⟨e, e0⟩
        · have e2 := congrArg litI ((congrArg Prod.fst e0).symm.trans hy)
          simp only [litI, Option.some.injEq] at e2
          have e3 : q = l.q x := Int.ofNat.inj e2
          subst e3
          cases c with
          | none => cases e
          | some q' =>
            injection e with e
            have := congrArg (fun a => a.map Addr.block) e
            simp at this
            rw [this]
        · have e2 := congrArg litI ((congrArg Prod.fst e0).symm.trans hy)
          simp [litI] at e2
      obtain ⟨hbe, hI, h64⟩ := HB.out
      obtain ⟨hsn, hmm⟩ := hbe.ss x xs hxs
      obtain ⟨l1, l2, _, l4, l5⟩ := hsn.lts
      obtain ⟨c0, c1, c3, c4, _, _, n, _, hq, _, _, _, hS, hn, _, _⟩ := hsn
      have hnm : ∀ b t, Ty w b t → ¬ OfM l s b := fun b t hb ⟨i, hi, e⟩ => by
        obtain ⟨z, hz⟩ := Option.ne_none_iff_exists'.1 hi
        exact Ty.nem hb (hbe.ss i z hz).1.lts.2.2.2.2 e
      have hq1 : w1.heap[l.q x]? = some (.cells #[c0, c1, l.v x, c3, c4, .map (some (l.m x))] 78 (0, 0)) := (hg1.block _ (by omega) (fun e => by injection e with e; omega)).trans ((hbp.block _ l1 (hnm _ _ l4)).trans hq)
      have hS1 : SetI w1 (l.m x) n xs.X := by
        rcases hst x xs hxs with ⟨_, e⟩ | ⟨e, _⟩
        · exact hS.of_block ((hg1.block _ (by omega) (fun e => by injection e with e; omega)).trans e)
        · rw [hlx] at e; cases e
      have hIc : L = [] ∨ ∃ g, av = some ⟨g, 0, none⟩ ∧ g < w.heap.size ∧ ∀ k u, L[k]? = some u → w1.cell? ⟨g, k, none⟩ = some (.int .i64 u) := by
        rcases hI with ⟨_, e⟩ | ⟨g, cap, e, _, hgl, hc⟩
        · exact .inl e
        · injection e with e1 _ _
          refine .inr ⟨g, e1, hgl, fun k u hu => ?_⟩
          have hcl := hc k u hu
          have hgo : ¬ OfM l s g := fun ⟨i, hi, e⟩ => by
            obtain ⟨z, hz⟩ := Option.ne_none_iff_exists'.1 hi
            obtain ⟨es, cc, e5⟩ := (hbe.ss i z hz).1.lts.2.2.2.2
            rw [← e] at e5
            simp [World.cell?, e5] at hcl
          rw [← hcl]
          exact World.cell?_of_block ((hg1.block g (by omega) (fun e => by injection e with e; omega)).trans (hbp.block g hgl hgo))
      have HS1 := Lib.hid (And.intro hS1 hn)
      have HQ1 := Lib.hid hq1
      have HI := Lib.hid (And.intro hIc h64)
      have hszm : l.m x < w1.heap.size := by omega
      have hqm : l.q x ≠ l.m x := Ty.nem l4 l5
      have HE : Hid (∀ wr2, SetI wr2 (l.m x) (n + L.length) (xs.X ++ L) → w1.grownBy wr2 (some (l.m x)) → TkI w l s L D w.heap.size wr2 ∧ wr2.rangeLeft l.mb w.heap.size < wr.rangeLeft l.mb w.heap.size) := fun wr2 hS2 hg2 => by
        have hk2 := hrg1.kept hg2 (fun e => hmm (by injection e with e; exact e.symm)) (fun e => by injection e with e; omega)
        refine ⟨⟨_, cnt1, hk2, fun kl hkl => hlh kl (by simp at hkl; exact hkl.1), (hbp.trans (.of_grown hg1 (by omega) (fun g hg => .inr (by injection hg with hg; omega)))).trans (.of_grown hg2 (by omega) (fun g hg => .inl ⟨x, by rw [hxs]; exact fun h => (by cases h), by injection hg with hg; exact hg.symm⟩)), fun i z hz => ?_⟩, ?_⟩
        · by_cases hix : i = x
          · subst hix
            rw [hxs] at hz
            rw [← Option.some.inj hz]
            exact .inr ⟨by simp [Lit.sameKey], n + L.length, hS2, by omega⟩
          · have hap := (hbe.ap i x (by rw [hz]; exact fun h => (by cases h)) (by rw [hxs]; exact fun h => (by cases h)) hix).2.1
            have hil := (hbe.ss i z hz).1.lts.2.1
            have hb2 : wr2.heap[l.m i]? = wr.heap[l.m i]? := (hg2.block _ (by omega) (fun e => hap (by injection e))).trans (hg1.block _ (by omega) (fun e => by injection e with e; omega))
            have hsk : (Lit.int .i64 i).sameKey (.int .i64 x) = false := by simp [Lit.sameKey, hix]
            rcases hst i z hz with ⟨a, b⟩ | ⟨a, n', b1, b2⟩
            · exact .inl ⟨by simp [a, hsk], hb2.trans b⟩
            · exact .inr ⟨by simp [a], n', b1.of_block hb2, b2⟩
        · rw [hk2.left_eq, hrg.left_eq]; exact hlt1
      clear hrg hlh hbp hst hrg1 hS1 hq1 hI hS hq hIc h64 hbe hnm hn hat1 hv1 hy hkey hh hg1
      simp only [Option.map_some] at hen
      go_wp2
      go_loopw [19] (fun i wr => TkJ xs.X L (l.m x) n w1 i wr) (fun i _ => L.length - (intOf i).toNat)
      case atStart => exact ⟨0, Nat.zero_le _, rfl, by simpa using HS1.out.1, ⟨rfl, rfl, rfl, Nat.le_refl _, fun _ _ _ => rfl⟩⟩
      case round =>
        obtain ⟨k, hk, rfl, hSm, hgm⟩ := hrel
        by_cases hml : k < L.length
        · obtain ⟨z, hz⟩ : ∃ z, L[k]? = some z := ⟨L[k], by simp [hml]⟩
          rcases HI.out.1 with rfl | ⟨g, rfl, hgl, hcl⟩
          · exact absurd hml (by simp)
          have z0 := hcl k z hz
          have hgne : g ≠ l.m x := fun e => by
            have := hSm.no_cell
            obtain ⟨es, cc, e5⟩ := HS1.out.1.is_map
            rw [← e] at e5
            simp [World.cell?, e5] at z0
          have z1 : wr.cell? ⟨g, k, none⟩ = some (.int .i64 z) := by
            rw [← z0]; exact World.cell?_of_block (hgm.block g (by omega) (fun e => hgne (Option.some.inj e)))
          have q1 := (hgm.block (l.q x) (by omega) (fun e => hqm (Option.some.inj e))).trans HQ1.out
          have q5 : wr.cell? ⟨l.q x, 5, none⟩ = some (.map (some (l.m x))) := cell_at q1 rfl
          have hn2 : n + k < maxLen := by
            have := HS1.out.2
            unfold maxLen; omega
          obtain ⟨w3, hr3, hs3, hg3⟩ := setI_put hSm hn2 (HI.out.2 z (List.mem_of_getElem? hz))
          have HR : Hid (TkJ xs.X L (l.m x) n w1 (.int .i64 ((k + 1 : Nat) : Int)) w3) := by
            refine ⟨k + 1, by omega, rfl, ?_, grown_trans hgm hg3⟩
            rw [takeK hz, ← List.append_assoc, ← Nat.add_assoc]
            exact hs3
          clear hSm hgm hs3 hg3 hz z0 hcl hn2 q1
          go_wp2
          refine ⟨?_, ?_⟩
          · first | exact HR.out | ((repeat apply Exists.intro); refine ⟨?_, rfl⟩; exact HR.out)
          · simp [intOf]
            try omega
        · obtain rfl : k = L.length := by omega
          rw [List.take_length] at hSm
          obtain ⟨hE1, hE2⟩ := HE.out wr hSm hgm
          have HR := Lib.hid (And.intro hE1 hE2)
          clear hSm hgm hE1 hE2
          go_wp2
          first | exact HR.out | ((repeat apply Exists.intro); exact HR.out) | (refine ⟨?_, HR.out.2⟩; first | exact HR.out.1 | ((repeat apply Exists.intro); refine ⟨?_, rfl⟩; exact HR.out.1))
end Go.Proofs.YtifhigajonafdaaGreat

/-
  What Commit leaves of a base.
-/
namespace Go.Proofs.YtifhigajonafdaaGreat
open Go.RowKit Go.Maps
set_option linter.unusedVariables false
set_option linter.unusedSimpArgs false

theorem kt_bp {t : TypeId} {B : Nat} {P : Nat → Prop} {w w' : World} (h : Bp B P w w') (hB : w.heap.size ≤ B) (hl : ∀ x, P x → (∃ es c, w.heap[x]? = some (.map es c)) ∨ ∃ t', t' ≠ t ∧ Ty w x t') : Kt t w w' :=
  ⟨h.size, fun b cs hb => (h.block b (Nat.lt_of_lt_of_le (Array.getElem?_eq_some_iff.1 hb).1 hB) (fun hx => by
    rcases hl b hx with k | ⟨t', hne, k⟩
    · exact Ty.nem ⟨cs, hb⟩ k rfl
    · exact Ty.ne ⟨cs, hb⟩ k (fun e => hne e.symm) rfl)).trans hb⟩
def dropS (s : Bs) (i : Int) : Bs := ⟨s.L, s.B, s.N, s.T, dropI s.F i, s.cnt - 1, s.op, s.age, s.nb⟩
theorem dropI_some {β : Type} {F : Int → Option β} {i j : Int} {x : β} (h : dropI F i j = some x) : j ≠ i ∧ F j = some x := by
  unfold dropI at h
  by_cases e : j = i
  · rw [if_pos e] at h; cases h
  · rw [if_neg e] at h; exact ⟨e, h⟩
theorem dropI_ne {β : Type} {F : Int → Option β} {i j : Int} (h : dropI F i j ≠ none) : F j ≠ none := by
  obtain ⟨x, hx⟩ := Option.ne_none_iff_exists'.1 h
  rw [(dropI_some hx).2]
  exact fun h => by cases h
theorem be_del {w w' : World} {base p : Nat} {l : Bl} {s : Bs} (h : BeL w base p l s) (hb : base ≤ w.heap.size) {i : Int} (hg : w.grownBy w' (some l.mb)) (hm : SMap w' l.mb s.op (s.cnt - 1) (dropI (fun i => (s.F i).map fun _ => l.q i) i)) : BeL w' base p l (dropS s i) ∧ Fr base w w' := by
  have hx : Bx w.heap.size [l.mb] w w' := .of_grown hg (Nat.le_refl _) (fun g hg => .inl (by injection hg with hg; simp [hg]))
  have hf := h.fr hb hx (fun x hx => by rw [List.mem_singleton.1 hx]; exact .inr (.inl rfl))
  have hpm : p ≠ l.mb := Ty.nem ⟨_, h.cs⟩ h.mp.is_map
  refine ⟨⟨(hg.block p (Array.getElem?_eq_some_iff.1 h.cs).1 (fun e => hpm (by injection e))).trans h.cs, h.bp, h.bm, h.sc' hf, h.gr' hf, ?_, fun j y hy => ?_, fun j j' hj hj' hjj => h.ap j j' (dropI_ne hj) (dropI_ne hj') hjj⟩, hf⟩
  · have e : (fun j => ((dropS s i).F j).map fun _ => l.q j) = dropI (fun i => (s.F i).map fun _ => l.q i) i := by
      funext j
      unfold dropS dropI
      simp only
      split <;> rfl
    show SMap w' l.mb s.op (s.cnt - 1) (fun j => ((dropS s i).F j).map fun _ => l.q j)
    rw [e]; exact hm
  · obtain ⟨hji, hy⟩ := dropI_some hy
    obtain ⟨b1, b2, b3, b4, b5⟩ := h.blks (i := j) (by rw [hy]; exact fun h => by cases h)
    exact ⟨h.sn hx hf hy (by simp [b2]) (by simp [b4]) (fun g hg => by simp [(b5 g hg).2]), b4⟩
def takeS (s : Bs) (L : List Int) : Bs := ⟨s.L, s.B, s.N, s.T, fun i => (s.F i).map fun x => x.tk L, s.cnt, s.op, s.age, s.nb + 5000⟩
theorem takeS_some {s : Bs} {L : List Int} {i : Int} {y : Ss} (h : (takeS s L).F i = some y) : ∃ x, s.F i = some x ∧ y = x.tk L := by
  unfold takeS at h
  simp only at h
  cases e : s.F i with
  | none => rw [e] at h; cases h
  | some x => rw [e] at h; exact ⟨x, rfl, (Option.some.inj h).symm⟩
theorem takeS_ne {s : Bs} {L : List Int} {i : Int} (h : (takeS s L).F i ≠ none) : s.F i ≠ none := by
  obtain ⟨y, hy⟩ := Option.ne_none_iff_exists'.1 h
  obtain ⟨x, hx, _⟩ := takeS_some hy
  rw [hx]
  exact fun h => by cases h
theorem be_take {w w' : World} {base p : Nat} {l : Bl} {s : Bs} {L : List Int} (h : BeL w base p l s) (hb : base ≤ w.heap.size) (ht : TkP w l s L w') : BeL w' base p l (takeS s L) ∧ Fr base w w' := by
  obtain ⟨hp, hS⟩ := ht
  have hom : ∀ x, OfM l s x → base ≤ x ∧ ∃ es c, w.heap[x]? = some (.map es c) := fun x ⟨i, hi, e⟩ => by
    obtain ⟨z, hz⟩ := Option.ne_none_iff_exists'.1 hi
    have hs := (h.ss i z hz).1
    subst e
    obtain ⟨_, _, _, _, _, _, _, _, _, _, _, _, _, _, _, hm⟩ := id hs
    exact ⟨hm, hs.lts.2.2.2.2⟩
  have k : ∀ t, Kt t w w' := fun t => kt_bp hp (Nat.le_refl _) (fun x hx => .inl (hom x hx).2)
  have hf : Fr base w w' := ⟨⟨hp.os, hp.tape, hp.output, hp.size, fun x hx => hp.block x (by omega) (fun q => by have := (hom x q).1; omega)⟩, fun t _ _ _ => k t⟩
  have nt : ∀ x t, Ty w x t → ¬ OfM l s x := fun x t hx q => Ty.nem hx (hom x q).2 rfl
  refine ⟨⟨(hp.block p (Array.getElem?_eq_some_iff.1 h.cs).1 (nt _ _ ⟨_, h.cs⟩)).trans h.cs, h.bp, h.bm, h.sc' hf, h.gr' hf, ?_, fun j y hy => ?_, fun j j' hj hj' hjj => h.ap j j' (takeS_ne hj) (takeS_ne hj') hjj⟩, hf⟩
  · have e : (fun j => ((takeS s L).F j).map fun _ => l.q j) = fun j => (s.F j).map fun _ => l.q j := by
      funext j
      unfold takeS
      simp only
      cases s.F j <;> rfl
    have := h.mp.of_block (hp.block _ h.mp.lt (fun ⟨i, hi, e⟩ => by
      obtain ⟨z, hz⟩ := Option.ne_none_iff_exists'.1 hi
      exact (h.ss i z hz).2 e.symm))
    show SMap w' l.mb s.op s.cnt (fun j => ((takeS s L).F j).map fun _ => l.q j)
    rw [e]; exact this
  · obtain ⟨x, hx, rfl⟩ := takeS_some hy
    obtain ⟨hsn, hmm⟩ := h.ss j x hx
    obtain ⟨l1, l2, l3, l4, _⟩ := hsn.lts
    obtain ⟨vn, vt, un, ut, K, M, n, O, h1, ⟨a1, a2, a3⟩, ⟨o0, o1, o2⟩, ⟨b1, b2, b3⟩, _, _, h6, h7⟩ := hsn
    obtain ⟨n', hS', hn'⟩ := hS j x hx
    exact ⟨⟨vn, vt, un, ut, K, M, n', O, (hp.block _ l1 (nt _ _ l4)).trans h1, ⟨a1, a2.kt (k _) (k _), a3.kt (k _)⟩, ⟨o0, own_kt o1 (k _), fun o hm => (o2 o hm).kt (k _)⟩, ⟨b1, b2.kt (k _) (k _), b3.kt (k _)⟩, hS', hn', h6, h7⟩, hmm⟩
def graphS (s : Bs) (N : List Nd) (T : List Te) : Bs := ⟨s.L, s.B, N, T, s.F, s.cnt, s.op, s.age + 1, s.nb⟩
theorem be_fin {w w' : World} {base p : Nat} {l : Bl} {s : Bs} (h : BeL w base p l s) (hb : base ≤ w.heap.size) {un ut : Value} {M : List Nd} {N : List Nd} {T : List Te} (hx : Bx w.heap.size [p] w w')
    (hp : w'.heap[p]? = some (.cells #[l.vk, l.vb, un, ut, .map (some l.mb), .int .i64 s.op, .int .i64 ((s.age + 1 : Nat) : Int)] 73 (0, 0))) (hM : cN M = N ∧ OwnNs w' base un M ∧ OwnTs w' base ut T) : Be w' base p (graphS s N T) ∧ Fr base w w' := by
  have hf := h.fr hb hx (fun x hx => by rw [List.mem_singleton.1 hx]; exact .inl rfl)
  have hpm : l.mb ≠ p := fun e => Ty.nem ⟨_, h.cs⟩ h.mp.is_map e.symm
  refine ⟨⟨⟨l.vk, l.vb, un, ut, l.mb, l.K, M, l.q, l.m, l.v⟩, hp, h.bp, h.bm, h.sc' hf, hM, h.mp.of_block (hx.block _ h.mp.lt (by simp [hpm])), fun j y hy => ?_, h.ap⟩, hf⟩
  obtain ⟨b1, b2, b3, b4, b5⟩ := h.blks (i := j) (by rw [show s.F j = some y from hy]; exact fun h => by cases h)
  exact ⟨h.sn hx hf hy (by simp [b1]) (by simp [b3]) (fun g hg => by simp [(b5 g hg).1]), b4⟩
def lateB (x : Ss) : Bool := (touA x.gT x.O).any fun y => decide (y ∈ x.X)
def cmE (s : Bs) (x : Ss) : Int := if lateB x = true then 10 else wE s x.O
def cmS (s : Bs) (i : Int) (x : Ss) (L : List Int) : Bs := graphS (takeS (dropS s i) L) (opS.res x.O s.N s.T).1 (opS.res x.O s.N s.T).2
theorem late_eq {x : Ss} {L : List Int} (h : ∀ y, y ∈ L ↔ y ∈ touA x.gT x.O) : (L.any fun y => decide (y ∈ x.X)) = lateB x := by
  unfold lateB
  rw [Bool.eq_iff_iff, List.any_eq_true, List.any_eq_true]
  exact ⟨fun ⟨y, a, b⟩ => ⟨y, (h y).1 a, b⟩, fun ⟨y, a, b⟩ => ⟨y, (h y).2 a, b⟩⟩
theorem cmS_ok {s : Bs} {i : Int} {x : Ss} {L : List Int} (h : BsOk s) (hF : s.F i = some x) (ha : s.age < 1000) (hw : wE s x.O = 0) (h64 : ∀ y ∈ L, in64 y) : BsOk (cmS s i x L) := by
  obtain ⟨hs0, hg0, _⟩ := cfE_zero h.c0
  have he : opS.err x.O s.N s.T = 0 := by
    by_cases e : opS.err x.O s.N s.T = 0
    · exact e
    · unfold wE at hw; rw [if_neg e] at hw; exact absurd hw e
  have hc : confB s.L s.B (opS.res x.O s.N s.T).1 (opS.res x.O s.N s.T).2 = true := by
    unfold wE at hw
    rw [if_pos he] at hw
    by_cases e : confB s.L s.B (opS.res x.O s.N s.T).1 (opS.res x.O s.N s.T).2 = true
    · exact e
    · rw [if_neg e] at hw; cases hw
  have hg1 := res_g x.O s.N s.T hg0 he
  refine ⟨?_, h.kz, h.bz, fun j y hy => ?_, h.on, by show s.age + 1 ≤ 1000; omega, by have := h.nl; show s.nb + 5000 ≤ (s.age + 1) * 5000; omega, fun j hj => ?_⟩
  · show cfE s.L s.B (opS.res x.O s.N s.T).1 (opS.res x.O s.N s.T).2 = 0
    unfold cfE inE
    rw [if_pos hs0, if_pos hg1, if_pos hc]
  · obtain ⟨z, hz, rfl⟩ := takeS_some (show (takeS (dropS s i) L).F j = some y from hy)
    obtain ⟨_, hz⟩ := dropI_some hz
    obtain ⟨k1, k2⟩ := h.so j z hz
    exact ⟨⟨k1.g0, k1.e0, k1.r0, k1.l0, k1.z0, fun u hu => by
      rcases List.mem_append.1 hu with hu | hu
      · exact k1.i0 u hu
      · exact h64 u hu⟩, k2⟩
  · exact h.nf j (dropI_ne (takeS_ne (show (takeS (dropS s i) L).F j ≠ none from hj)))
theorem IsI.but {w w' : World} {v : Value} {L : List Int} {b : Nat} (h : IsI w v L) (hm : ∃ es c, w.heap[b]? = some (.map es c)) (hg : w.grownBy w' (some b)) : IsI w' v L := by
  rcases h with h | ⟨g, cap, e, h1, h2, h3⟩
  · exact .inl h
  · by_cases hL : L = []
    · subst hL
      refine .inr ⟨g, cap, e, h1, Nat.lt_of_lt_of_le h2 hg.size, fun k x hx => by simp at hx⟩
    · refine .inr ⟨g, cap, e, h1, Nat.lt_of_lt_of_le h2 hg.size, fun k x hx => ?_⟩
      have hc := h3 k x hx
      have hgb : g ≠ b := fun e => by
        obtain ⟨es, c, hm⟩ := hm
        rw [← e] at hm
        simp [World.cell?, hm] at hc
      rw [← hc]
      exact World.cell?_of_block (hg.block g h2 (fun e => hgb (Option.some.inj e)))
end Go.Proofs.YtifhigajonafdaaGreat
