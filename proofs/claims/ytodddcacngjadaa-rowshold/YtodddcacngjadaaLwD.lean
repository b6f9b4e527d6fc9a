/-
  The law's walk where nothing is wrong.
-/
import Derived.Test.YtodddcacngjadaaLwC
import Derived.BigQuiet
namespace Go.Proofs.Ytodddcacngjadaa
open Go.RowKit
set_option linter.unusedVariables false
set_option linter.unusedSimpArgs false

theorem sum_take {cs : List Nat} {k c : Nat} (h : cs[k]? = some c) : (cs.take (k + 1)).sum = (cs.take k).sum + c := by
  obtain ⟨hk, rfl⟩ := List.getElem?_eq_some_iff.1 h
  rw [List.take_succ_eq_append_getElem hk, List.sum_append]; simp
theorem sum_le : ∀ (cs : List Nat) (k : Nat), (cs.take k).sum ≤ cs.sum
  | [], k => by simp
  | a :: r, 0 => by simp
  | a :: r, k + 1 => by have := sum_le r k; simp only [List.take_succ_cons, List.sum_cons]; omega
set_option maxHeartbeats 16000000 in
set_option maxRecDepth 100000 in
theorem law_yes {v : Value} {L : List Rv} {w : World} (h : IsRs w v L) (hz : SzRs L) (hm : L.length ≤ maxLen) (s : ByteArray) (hs : s.size ≤ maxLen) (down : Bool) (he : askRE L s.data.toList = 0) :
    Calls Try.prog 3 #[v, .string s, .bool down] w fun e w' => e = .returned (.bool true) ∧ Below w.heap.size w w' := by
  have cF := fact_any w _ rfl
  have c2 := fun (W : World) (hW : Below w.heap.size w W) => sortQ_any (h.on hW) hz hm s hs down he
  have HG := Lib.hid (fun (W : World) (hW : Below w.heap.size w W) => groupQ_any (h.on hW) hz hm s hs he)
  have HS1 := Lib.hid (fun (W : World) (hW : Below w.heap.size w W) => sum_any (h.on hW) hz hm s hs)
  have HA := Lib.hid (And.intro he hs)
  obtain ⟨hl, hr, hne⟩ := askRE_ok he
  obtain ⟨av, cv, hv, _⟩ := h
  subst hv
  have HNe := Lib.hid hne
  clear hz hm he hr hne hs
  unfold SoQ at c2
  go_enter Try.func3, Try.ntmps3
  go_wp2_with (first | (go_at_call 4; refine cF.mono ?_; rintro e W4 ⟨g, cg, g0, c0, rfl, f0, f1, hB4⟩; refine Hid.out ?_))
  refine Lib.hid ?_
  have c3 := c2 W4 hB4
  clear cF c2
  go_wp2_with (first | (go_at_call 4; refine c3.mono ?_; rintro e W5 ⟨v5, H, S, rfl, hIs, hSr, hB5⟩; refine Hid.out ?_))
  refine Lib.hid ?_
  have HB5 := Lib.hid (on1R hB4 hB5)
  have HSr := Lib.hid hSr
  have HIs := Lib.hid hIs
  obtain ⟨a5, c5, e5, hcs⟩ := hIs
  subst e5
  have HC := Lib.hid hcs
  have hSl : S.length = L.length := hSr.len
  have hHS : H.length ≤ L.length := by have := hSr.hl; omega
  rw [hSl]
  have HSl := Lib.hid hSl
  clear c3 hB4 hB5 hSr hcs f0 f1 hSl
  go_wp2
  go_loopw [13, 14] (fun hv i wr => ∃ k : Nat, k ≤ L.length ∧ i = .int .i64 (k : Int) ∧ hv = .int .i64 ((min k H.length : Nat) : Int) ∧ Below W5.heap.size W5 wr) (fun _ i _ => L.length - (intOf i).toNat)
  case atStart => exact ⟨0, Nat.zero_le _, rfl, by simp, Below.refl _ _⟩
  case round =>
    obtain ⟨k, hk, rfl, rfl, hB⟩ := hrel
    by_cases hlt : k < L.length
    · obtain ⟨x, hx⟩ : ∃ x, S[k]? = some x := ⟨_, List.getElem?_eq_getElem (by rw [HSl.out]; exact hlt)⟩
      obtain ⟨b, off, rfl, hbl, hL⟩ := HC.out.resolve_left (fun e => by rw [← HSl.out, e] at hlt; simp at hlt)
      obtain ⟨l0, hRx⟩ := hL k x hx
      have l0' := (hB.cell (p := ⟨b, off + k, none⟩) hbl).trans l0
      have hrx := HSr.out.ask x (List.mem_of_getElem? hx)
      have hzx := HSr.out.sz x (List.mem_of_getElem? hx)
      obtain ⟨xa, xc, hxv, _⟩ := id hRx
      have cG := get_any (hRx.on hB) hzx.1 hzx.2 s
      have hbs : b < wr.heap.size := Nat.lt_of_lt_of_le hbl hB.size
      have hbn : ¬ b = wr.heap.size := by omega
      rw [hxv] at l0' cG
      by_cases hkH : k < H.length
      · obtain ⟨y, hy⟩ : ∃ y, H[k]? = some y := ⟨_, List.getElem?_eq_getElem hkH⟩
        obtain ⟨g1, g2⟩ := get_v hrx (HSr.out.at1 k x y hx hy)
        rw [g1, g2, errV_0] at cG
        have hmn : (min k H.length : Nat) = k := by omega
        have hmn1 : (min (k + 1) H.length : Nat) = k + 1 := by omega
        rw [hmn]
        have HMn := Lib.hid hmn1
        have hys := y.2.2.1
        rcases Nat.eq_zero_or_pos k with hk0 | hk0
        · subst hk0
          simp only [Nat.add_zero] at l0'
          clear hmn hmn1 g1 g2 hRx hL l0 hrx hzx hxv hx hy
          unfold k3 at cG
          go_wp2_with (first | (go_at_call 5; refine cG.mono ?_; rintro e W6 ⟨rfl, hB6⟩))
          have R : ∃ k' : Nat, k' ≤ L.length ∧ Value.int .i64 1 = .int .i64 (k' : Int) ∧ Value.int .i64 1 = .int .i64 ((min k' H.length : Nat) : Int) ∧ Below W5.heap.size W5 (W6.alloc (.cells #[.int .i64 y.1.t, .int .i64 y.1.n, .string y.1.s] 24)) := ⟨1, by omega, by simp, by rw [show min 1 H.length = 1 by omega]; rfl, b_allocR (on1R hB hB6) _⟩
          refine ⟨?_, ?_⟩
          · first | exact R | ((repeat apply Exists.intro); refine ⟨?_, rfl⟩; exact R)
          · simp [intOf]; omega
        · obtain ⟨j, rfl⟩ : ∃ j, k = j + 1 := ⟨k - 1, by omega⟩
          obtain ⟨x', hx'⟩ : ∃ x', S[j]? = some x' := ⟨_, List.getElem?_eq_getElem (by rw [HSl.out]; omega)⟩
          obtain ⟨y', hy'⟩ : ∃ y', H[j]? = some y' := ⟨_, List.getElem?_eq_getElem (by omega)⟩
          obtain ⟨m0, hRx'⟩ := hL j x' hx'
          have m0' := (hB.cell (p := ⟨b, off + j, none⟩) hbl).trans m0
          have hrx' := HSr.out.ask x' (List.mem_of_getElem? hx')
          have hzx' := HSr.out.sz x' (List.mem_of_getElem? hx')
          obtain ⟨xa', xc', hxv', _⟩ := id hRx'
          obtain ⟨p1, p2⟩ := get_v hrx' (HSr.out.at1 j x' y' hx' hy')
          have HGp : Hid (∀ W, Below wr.heap.size wr W → Calls Try.prog 5 #[.slice xa' x'.rc.length xc', .string s] W fun e w' => e = .returned (.tuple #[.agg #[.int .i64 y'.1.t, .int .i64 y'.1.n, .string y'.1.s], .nilIface]) ∧ Below W.heap.size W w') := fun W hW => by
            have := get_any ((hRx'.on hB).on hW) hzx'.1 hzx'.2 s
            rw [p1, p2, errV_0, hxv'] at this
            exact this
          have HM0 : Hid (∀ W, Below wr.heap.size wr W → W.cell? ⟨b, off + j, none⟩ = some (.slice xa' x'.rc.length xc')) := fun W hW => (hW.cell (p := ⟨b, off + j, none⟩) hbs).trans (by rw [m0', hxv'])
          have hord := in_order HSr.out.pw hy' hy
          have HV : Hid (∀ W, Calls Try.prog 6 #[.agg #[.int .i64 y'.1.t, .int .i64 y'.1.n, .string y'.1.s], .agg #[.int .i64 y.1.t, .int .i64 y.1.n, .string y.1.s]] W fun e w' => e = .returned (.tuple #[.int .i64 (cVal y'.1.t y'.1.n y'.1.s.data.toList y.1.t y.1.n y.1.s.data.toList), errV (cErr y'.1.t y'.1.n y'.1.s.data.toList y.1.t y.1.n y.1.s.data.toList)]) ∧ Gr W w') := fun W => vcompare_any _ _ _ _ _ _ W y'.2.2.1 hys
          generalize cVal y'.1.t y'.1.n y'.1.s.data.toList y.1.t y.1.n y.1.s.data.toList = cv1 at HV hord
          generalize cErr y'.1.t y'.1.n y'.1.s.data.toList y.1.t y.1.n y.1.s.data.toList = ce1 at HV hord
          unfold k3 at cG
          generalize y'.1.t = t1 at HV HGp
          generalize y'.1.n = n1 at HV HGp
          generalize y'.1.s = s1 at HV HGp
          generalize y.1.t = t2 at HV cG
          generalize y.1.n = n2 at HV cG
          generalize y.1.s = s2 at HV cG
          generalize x'.rc.length = xl' at HGp HM0
          generalize x.rc.length = xl at cG l0'
          clear hmn hmn1 g1 g2 hRx hL l0 hrx hzx hxv hx hy hRx' m0 m0' hrx' hzx' hxv' hx' hy' p1 p2 hys
          go_wp2_with (first | (go_at_call 5; refine cG.mono ?_; rintro e W6 ⟨rfl, hB6⟩; refine Hid.out ?_))
          refine Lib.hid ?_
          have hBy : Below wr.heap.size wr (W6.alloc (.cells #[.int .i64 t2, .int .i64 n2, .string s2] 24)) := b_allocR hB6 _
          have cG2 := HGp.out _ hBy
          have m1 := HM0.out _ hBy
          have HBy := Lib.hid hBy
          have hb6 : b < W6.heap.size := Nat.lt_of_lt_of_le hbs hB6.size
          have hb6n : ¬ b = W6.heap.size := by omega
          clear cG hB6 hBy l0'
          go_wp2_with (first | (go_at_call 5; refine cG2.mono ?_; rintro e W7 ⟨rfl, hB7⟩; refine Hid.out ?_))
          refine Lib.hid ?_
          have n6 := (hB7.block W6.heap.size (by simp)).trans (heap_alloc_new W6 (.cells #[.int .i64 t2, .int .i64 n2, .string s2] 24))
          obtain ⟨W9, hW9⟩ : ∃ W9, W9 = W7.alloc (.cells #[.int .i64 t1, .int .i64 n1, .string s1] 24) := ⟨_, rfl⟩
          have h67 : W6.heap.size < W7.heap.size := by have := hB7.size; simp at this; omega
          have n6' : W9.heap[W6.heap.size]? = some (.cells #[.int .i64 t2, .int .i64 n2, .string s2] 24 (0, 0)) := by rw [hW9]; exact (heap_alloc_old _ _ h67).trans n6
          have n7 : W9.heap[W7.heap.size]? = some (.cells #[.int .i64 t1, .int .i64 n1, .string s1] 24 (0, 0)) := by rw [hW9]; exact heap_alloc_new W7 _
          have z0 : W9.cell? ⟨W6.heap.size, 0, none⟩ = some (.int .i64 t2) := cell_at n6' rfl
          have z1 : W9.cell? ⟨W6.heap.size, 1, none⟩ = some (.int .i64 n2) := cell_at n6' rfl
          have z2 : W9.cell? ⟨W6.heap.size, 2, none⟩ = some (.string s2) := cell_at n6' rfl
          have z3 : W9.cell? ⟨W7.heap.size, 0, none⟩ = some (.int .i64 t1) := cell_at n7 rfl
          have z4 : W9.cell? ⟨W7.heap.size, 1, none⟩ = some (.int .i64 n1) := cell_at n7 rfl
          have z5 : W9.cell? ⟨W7.heap.size, 2, none⟩ = some (.string s1) := cell_at n7 rfl
          have hBz : Below wr.heap.size wr W9 := by rw [hW9]; exact b_allocR (on1R HBy.out hB7) _
          have HBz := Lib.hid (on1R hB hBz)
          have cV := HV.out W9
          clear cG2 m1 hB7 hBz n6 n6' n7 h67 HGp HM0 HV
          have R : ∀ W8, Below W9.heap.size W9 W8 → ∃ k' : Nat, k' ≤ L.length ∧ Value.int .i64 ((j : Int) + 1 + 1) = .int .i64 (k' : Int) ∧ Value.int .i64 ((j : Int) + 1 + 1) = .int .i64 ((min k' H.length : Nat) : Int) ∧ Below W5.heap.size W5 W8 := fun W8 hB8 => ⟨j + 1 + 1, by omega, by simp, by rw [HMn.out]; simp, on1R HBz.out hB8⟩
          go_upto_region 20 with fail
          rw [← hW9]
          clear hW9
          have HR := Lib.hid R
          clear R
          by_cases hce : ce1 = 0
          · obtain ⟨o1, o2⟩ := hord hce
            rw [hce, errV_0] at cV
            cases down with
            | false =>
              have o3 : ¬ 0 < cv1 := by have := o1 rfl; omega
              clear o1 o2 hord
              go_wp2_with (first | (go_at_call 6; refine cV.mono ?_; rintro e W8 ⟨rfl, hG8⟩))
              refine ⟨?_, ?_⟩
              · first | exact HR.out _ hG8.below | ((repeat apply Exists.intro); refine ⟨?_, rfl⟩; exact HR.out _ hG8.below)
              · simp [intOf]; omega
            | true =>
              have o3 : ¬ cv1 < 0 := by have := o2 rfl; omega
              clear o1 o2 hord
              go_wp2_with (first | (go_at_call 6; refine cV.mono ?_; rintro e W8 ⟨rfl, hG8⟩))
              refine ⟨?_, ?_⟩
              · first | exact HR.out _ hG8.below | ((repeat apply Exists.intro); refine ⟨?_, rfl⟩; exact HR.out _ hG8.below)
              · simp [intOf]; omega
          · rw [errV_ne hce] at cV
            clear hord
            go_wp2_with (first | (go_at_call 6; refine cV.mono ?_; rintro e W8 ⟨rfl, hG8⟩))
            refine ⟨?_, ?_⟩
            · first | exact HR.out _ hG8.below | ((repeat apply Exists.intro); refine ⟨?_, rfl⟩; exact HR.out _ hG8.below)
            · simp [intOf]; omega
      · obtain ⟨g1, g2⟩ := get_n hrx (HSr.out.at2 k x hx (by omega))
        rw [g1, g2, errV_5R] at cG
        have hmn : (min k H.length : Nat) = H.length := by omega
        have hmn1 : (min (k + 1) H.length : Nat) = H.length := by omega
        rw [hmn]
        have HMn := Lib.hid hmn1
        clear hmn hmn1 g1 g2 hRx hL l0 hrx hzx hxv hx
        go_wp2_with (first | (go_at_call 5; refine cG.mono ?_; rintro e W6 ⟨rfl, hB6⟩))
        have R : ∃ k' : Nat, k' ≤ L.length ∧ Value.int .i64 ((k : Int) + 1) = .int .i64 (k' : Int) ∧ Value.int .i64 (H.length : Int) = .int .i64 ((min k' H.length : Nat) : Int) ∧ Below W5.heap.size W5 (W6.alloc (.cells #[.int .i64 0, .int .i64 0, .string ⟨#[]⟩] 24)) := ⟨k + 1, by omega, by simp, by rw [HMn.out], b_allocR (on1R hB hB6) _⟩
        refine ⟨?_, ?_⟩
        · first | exact R | ((repeat apply Exists.intro); refine ⟨?_, rfl⟩; exact R)
        · simp [intOf]; omega
    · obtain rfl : k = L.length := by omega
      have hmn : (min L.length H.length : Nat) = H.length := by omega
      rw [hmn]
      have HBw := Lib.hid (on1R HB5.out hB)
      have HBs := Lib.hid hB
      have cGr := HG.out wr HBw.out
      have hHN : (haveL s.toList L).length = H.length := by have := HSr.out.perm.length_eq; simpa using this.symm
      unfold GrQ at cGr
      rw [hHN] at cGr
      clear hmn hHN hB hlt hk HC
      go_wp2_with (first | (go_at_call 7; refine cGr.mono ?_; rintro e W6 ⟨v6, S2, cs, ee, rfl, hI2, hl2, hl3, hat, hs2, hsN, hB6⟩; refine Hid.out ?_))
      refine Lib.hid ?_
      obtain ⟨a6, c6, e6, hcs2⟩ := hI2
      subst e6
      rw [hl2]
      have HC2 := Lib.hid (And.intro hcs2 (And.intro hat (And.intro hsN hl2)))
      have HBw6 := Lib.hid (And.intro (on1R HBw.out hB6) (on1R HBs.out hB6))
      obtain ⟨ev, hev⟩ : ∃ ev, errV ee = ev := ⟨_, rfl⟩
      rw [hev]
      have HEv := Lib.hid hev
      clear cGr hcs2 hat hsN hl2 hB6 hev
      go_wp2
      go_loopw [23, 24] (fun mv i wr => ∃ k : Nat, k ≤ cs.length ∧ i = .int .i64 (k : Int) ∧ mv = .int .i64 (((cs.take k).sum : Nat) : Int) ∧ Below W6.heap.size W6 wr) (fun _ i _ => cs.length - (intOf i).toNat)
      case atStart => exact ⟨0, Nat.zero_le _, rfl, by simp, Below.refl _ _⟩
      case round =>
        obtain ⟨k, hk, rfl, rfl, hB⟩ := hrel
        by_cases hlt : k < cs.length
        · obtain ⟨x, hx⟩ : ∃ x, S2[k]? = some x := ⟨_, List.getElem?_eq_getElem (by rw [HC2.out.2.2.2]; exact hlt)⟩
          obtain ⟨c, hc, hc1, hrx, hvx⟩ := HC2.out.2.1 k x hx
          obtain ⟨b, off, rfl, hbl, hL⟩ := HC2.out.1.resolve_left (fun e => by rw [← HC2.out.2.2.2, e] at hlt; simp at hlt)
          obtain ⟨l0, hRx⟩ := hL k x hx
          have l0' := (hB.cell (p := ⟨b, off + k, none⟩) hbl).trans l0
          obtain ⟨xa, xc, hxv, _⟩ := id hRx
          have cG := get_any (hRx.on hB) (sz_of hrx) (Nat.le_trans (rErr_len hrx) (by unfold maxLen; omega)) ⟨#[110]⟩
          obtain ⟨g1, g2⟩ := get_v hrx hvx
          rw [show (⟨#[110]⟩ : ByteArray).toList = [110] from Lib.toList_data _, g1, g2, errV_0] at cG
          rw [hxv] at l0' cG
          have hst := sum_take hc
          have hsl := sum_le cs (k + 1)
          have HSt := Lib.hid hst
          have hsi : (((cs.take k).sum : Nat) : Int) + (c : Int) ≤ 200 := by omega
          have hsp : 0 ≤ (((cs.take k).sum : Nat) : Int) := by omega
          have hci : ¬ (c : Int) < 1 := by omega
          have hbs : b < wr.heap.size := Nat.lt_of_lt_of_le hbl hB.size
          have hbn : ¬ b = wr.heap.size := by omega
          generalize x.rc.length = xl at cG l0'
          obtain ⟨ms, hms⟩ : ∃ ms : Int, (((cs.take k).sum : Nat) : Int) = ms := ⟨_, rfl⟩
          rw [hms] at hsi hsp ⊢
          have HMs := Lib.hid hms
          clear hRx hL l0 hrx hvx hx g1 g2 hst hsl hxv hc hms
          go_wp2_with (first | (go_at_call 5; refine cG.mono ?_; rintro e W7 ⟨rfl, hB7⟩))
          have R : ∃ k' : Nat, k' ≤ cs.length ∧ Value.int .i64 ((k : Int) + 1) = .int .i64 (k' : Int) ∧ Value.int .i64 (ms + (c : Int)) = .int .i64 (((cs.take k').sum : Nat) : Int) ∧ Below W6.heap.size W6 (W7.alloc (.cells #[.int .i64 1, .int .i64 (c : Int), .string ⟨#[]⟩] 24)) := ⟨k + 1, by omega, by simp, by rw [HSt.out, ← HMs.out]; simp, b_allocR (on1R hB hB7) _⟩
          refine ⟨?_, ?_⟩
          · first | exact R | ((repeat apply Exists.intro); refine ⟨?_, rfl⟩; exact R)
          · simp [intOf]; omega
        · obtain rfl : k = cs.length := by omega
          rw [List.take_length]
          have hBx := on1R HBw6.out.1 hB
          have cS1 := HS1.out wr hBx
          have hIx := HIs.out.on (on1R HBw6.out.2 hB)
          have HSum : Hid (∀ W, Below wr.heap.size wr W → Calls Try.prog 8 #[.slice a5 L.length c5, .string s] W fun e w' => e = .returned (.tuple #[.int .i64 (sumV L s.data.toList).1, errV (sumV L s.data.toList).2]) ∧ Below W.heap.size W w') := fun W hW => by
            have h1 := sum_any (hIx.on hW) HSr.out.sz (by rw [HSr.out.len]; unfold maxLen; omega) s HA.out.2
            have hn : s.toList = s.data.toList := Lib.toList_data _
            have hSo := HSr.out.askOk hl (by rw [hn]; exact HNe.out)
            have hSu := HSr.out.sums
            rw [hn] at hSo hSu
            have hE : sumV S s.data.toList = sumV L s.data.toList := by unfold sumV; rw [if_pos hSo, if_pos HA.out.1, hSu]
            rw [hE, HSr.out.len] at h1
            exact h1
          obtain ⟨sa, hsa⟩ : ∃ sa, (sumV L s.data.toList).1 = sa := ⟨_, rfl⟩
          obtain ⟨se, hse⟩ : ∃ se, (sumV L s.data.toList).2 = se := ⟨_, rfl⟩
          rw [hsa, hse] at cS1 HSum
          have HBx := Lib.hid hBx
          clear hIx hsa hse hBx hB hlt hk
          obtain ⟨es, hes⟩ : ∃ es, errV se = es := ⟨_, rfl⟩
          rw [hes] at cS1 HSum
          have hev := HEv.out
          by_cases hee : ee = 0
          · have hcN := HC2.out.2.2.1 hee
            rw [hee, errV_0] at hev
            subst hev
            rw [hcN]
            go_wp2_with (first | (go_at_call 8; refine cS1.mono ?_; rintro e W7 ⟨rfl, hB7⟩; refine Hid.out ?_))
            refine Lib.hid ?_
            have cS2 := HSum.out W7 hB7
            clear cS1
            by_cases hsz : se = 0
            · rw [hsz, errV_0] at hes
              subst hes
              go_wp2_with (first | (go_at_call 8; refine cS2.mono ?_; rintro e W8 ⟨rfl, hB8⟩))
              go_quiet (fail)
              go_wp2
              go_ret
              exact ⟨by simp, b_drewN (on1R (on1R HBx.out hB7) hB8) _⟩
            · rw [errV_ne hsz] at hes
              subst hes
              go_wp2_with (first | (go_at_call 8; refine cS2.mono ?_; rintro e W8 ⟨rfl, hB8⟩))
              go_quiet (fail)
              go_wp2
              go_ret
              exact ⟨by simp, b_drewN (on1R (on1R HBx.out hB7) hB8) _⟩
          · rw [errV_ne hee] at hev
            subst hev
            go_wp2_with (first | (go_at_call 8; refine cS1.mono ?_; rintro e W7 ⟨rfl, hB7⟩; refine Hid.out ?_))
            refine Lib.hid ?_
            have cS2 := HSum.out W7 hB7
            clear cS1
            by_cases hsz : se = 0
            · rw [hsz, errV_0] at hes
              subst hes
              go_wp2_with (first | (go_at_call 8; refine cS2.mono ?_; rintro e W8 ⟨rfl, hB8⟩))
              go_quiet (fail)
              go_wp2
              go_ret
              exact ⟨by simp, b_drewN (on1R (on1R HBx.out hB7) hB8) _⟩
            · rw [errV_ne hsz] at hes
              subst hes
              go_wp2_with (first | (go_at_call 8; refine cS2.mono ?_; rintro e W8 ⟨rfl, hB8⟩))
              go_quiet (fail)
              go_wp2
              go_ret
              exact ⟨by simp, b_drewN (on1R (on1R HBx.out hB7) hB8) _⟩
end Go.Proofs.Ytodddcacngjadaa
