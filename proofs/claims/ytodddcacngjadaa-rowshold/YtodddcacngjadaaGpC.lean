/-
  The walk of Group.
-/
import Derived.Test.YtodddcacngjadaaGpB
import Derived.Carry
namespace Go.Proofs.Ytodddcacngjadaa
open Go.RowKit
set_option linter.unusedVariables false
set_option linter.unusedSimpArgs false

def k3 (h : Hv) : V3 := ⟨h.t, h.n, h.s⟩
theorem b_drew1 {B : Nat} {a w : World} (h : Below B a w) : Below B a w.drew := ⟨h.os, h.tape, h.output, h.size, h.block⟩
theorem b_undrew1 {a w : World} (h : Below a.drew.heap.size a.drew w) : Below a.heap.size a w := ⟨h.os, h.tape, h.output, h.size, h.block⟩
/-- What Group gives. -/
def GrP (w : World) (s : ByteArray) (l : List V3) (e : Ending) (w' : World) : Prop :=
  ∃ (v : Value) (ss : List V3), e = .returned (.tuple #[v, .nilIface]) ∧ ss.Nodup ∧ (∀ x, x ∈ ss ↔ x ∈ l) ∧ OwnRs w' w.heap.size v (ss.map fun x => grp s x (l.count x : Nat)) ∧ Below w.heap.size w w'
theorem vok_in {t n : Int} {l : List UInt8} (h : vErr t n l = 0) : in64 t ∧ in64 n := by
  unfold vErr at h
  split at h
  · rename_i ht
    split at h
    · rename_i hr
      refine ⟨in64_of (by omega) (by omega), ?_⟩
      unfold inR at hr
      rcases ht with rfl | rfl | rfl <;> simp at hr <;> exact in64_of (by omega) (by omega)
    · exact absurd h (by decide)
  · exact absurd h (by decide)
theorem cells3_at {ss : List V3} {k : Nat} {x : V3} (h : ss[k]? = some x) : (ss.flatMap cells3)[k * 3]? = some (.int .i64 x.t) ∧ (ss.flatMap cells3)[k * 3 + 1]? = some (.int .i64 x.n) ∧ (ss.flatMap cells3)[k * 3 + 2]? = some (.string x.s) :=
  ⟨flat_at cells3 3 (fun _ => rfl) ss k x 0 h (by omega), flat_at cells3 3 (fun _ => rfl) ss k x 1 h (by omega), flat_at cells3 3 (fun _ => rfl) ss k x 2 h (by omega)⟩

set_option maxHeartbeats 8000000 in
set_option maxRecDepth 100000 in
theorem group_ok {v : Value} {L : List Rv} {w : World} (h : IsRs w v L) (hz : SzRs L) (hm : L.length ≤ maxLen) (s : ByteArray) (hs : s.size ≤ maxLen) (he : askRE L s.data.toList = 0) (hsn : (s.toList == [110]) = false) :
    Calls Try.prog 7 #[v, .string s] w (GrP w s ((haveL s.toList L).map k3)) := by
  obtain ⟨i0, hi0, hz0, hz1, hz2⟩ := info_partsR infoRc
  have c1 := checkAsked_any h hz hm s hs
  rw [he, errV_0] at c1
  obtain ⟨hl, hr, hne⟩ := askRE_ok he
  have hok := have_ok h hz hr s.toList
  have c2 := fun (W : World) (hW : Below w.heap.size w W) => parted_any (h.on hW) hz hl hr s
  have hHl : (haveL s.toList L).length ≤ 200 := Nat.le_trans (have_len _ _) hl
  unfold PaP PaR at c2
  have HOk := Lib.hid (And.intro hok hne)
  have hmm := @run_makeMap Try.prog
  clear h hz hm hl hr he hok hne
  unfold GrP
  generalize lackL s.toList L = K at c2
  generalize haveL s.toList L = H at c2 HOk hHl ⊢
  obtain ⟨l, hlH⟩ : ∃ l, H.map k3 = l := ⟨_, rfl⟩
  rw [hlH]
  have HlH := Lib.hid hlH
  clear hlH
  go_enter Try.func7, Try.ntmps7
  go_wp2_with (first | (go_at_call 9; refine c1.mono ?_; rintro e W1 ⟨rfl, hB1⟩) | (go_at_call 10; refine (c2 W1 hB1).mono ?_; rintro e W2 ⟨vh, vl, rfl, ho1, ho2, hB2⟩; refine Hid.out ?_))
  refine Lib.hid ?_
  obtain ⟨al, cl, rfl⟩ := own_slice ho2
  obtain ⟨ah, ch, ee, hch, hcsH⟩ := own_isH ho1
  subst ee
  have HB := Lib.hid (on1R hB1 hB2)
  have HCH := Lib.hid hcsH
  clear c1 c2 ho1 ho2 hB1 hB2 hcsH hch
  go_wp2
  go_loopw [33] (fun i wr => ∃ k : Nat, k ≤ H.length ∧ i = .int .i64 (k : Int) ∧ OwnM wr Try.prog 24 enc3 W2.heap.size (gm ((H.take k).map k3)) ∧ Below W2.heap.size W2 wr) (fun i _ => H.length - (intOf i).toNat)
  case atStart => exact ⟨0, Nat.zero_le _, rfl, by rw [List.take_zero, List.map_nil, gm_nil]; exact OwnM.made W2, b_allocR (Below.refl _ _) _⟩
  case round =>
    obtain ⟨k, hk, rfl, hM, hB⟩ := hrel
    by_cases hlt : k < H.length
    · obtain ⟨x, hx⟩ : ∃ x, H[k]? = some x := ⟨_, List.getElem?_eq_getElem hlt⟩
      obtain ⟨b, off, rfl, hbl, hL⟩ := HCH.out.resolve_left (fun e => by rw [e] at hlt; simp at hlt)
      obtain ⟨l0, l1, l2, l3⟩ := (hL.on hbl hB) k x hx
      obtain ⟨hv0, hv1, ra, rn, rc', hrv⟩ := HOk.out.1 x (List.mem_of_getElem? hx)
      obtain ⟨hi1, hi2⟩ := vok_in hv0
      obtain ⟨lt, hkl⟩ := key3 (x := k3 x) hi1 hi2 hv1
      have HT := Lib.hid (take_mapS k3 hx)
      rw [hrv] at l0
      have hB1 : Below wr.heap.size wr (wr.alloc (.cells #[.slice ra rn rc', .int .i64 x.t, .int .i64 x.n, .string x.s] 46)).drew := b_drew1 (b_allocR (Below.refl _ _) _)
      have hcl : (((H.take k).map k3).count (k3 x) : Int) ≤ 200 := by have := List.count_le_length (a := k3 x) (l := (H.take k).map k3); rw [List.length_map, List.length_take] at this; omega
      obtain ⟨cc, hcc⟩ : ∃ cc : Int, (((H.take k).map k3).count (k3 x) : Nat) = cc := ⟨_, rfl⟩
      obtain ⟨w2, w3, n, f1, f2, f3, f4, f5, f6, f7, f8, f9⟩ := gm_more (hM.of_block (hB1.block _ hM.lt)) hkl hcc
      have HN : Hid (∃ k' : Nat, k' ≤ H.length ∧ (Value.int .i64 ((k : Int) + 1)) = .int .i64 k' ∧ OwnM w3 Try.prog 24 enc3 W2.heap.size (gm ((H.take k').map k3)) ∧ Below W2.heap.size W2 w3) :=
        ⟨k + 1, hlt, by simp, by rw [HT.out]; exact f5, below_grown (on1R hB hB1) f7 (on1R hB hB1).size (fun j hj => by cases hj; exact Nat.le_refl _)⟩
      have o1 : (wr.alloc (.cells #[.slice ra rn rc', .int .i64 x.t, .int .i64 x.n, .string x.s] 46)).cell? ⟨wr.heap.size, 1, none⟩ = some (.int .i64 x.t) := cell_at (heap_alloc_new wr _) rfl
      have o2 : (wr.alloc (.cells #[.slice ra rn rc', .int .i64 x.t, .int .i64 x.n, .string x.s] 46)).cell? ⟨wr.heap.size, 2, none⟩ = some (.int .i64 x.n) := cell_at (heap_alloc_new wr _) rfl
      have o3 : (wr.alloc (.cells #[.slice ra rn rc', .int .i64 x.t, .int .i64 x.n, .string x.s] 46)).cell? ⟨wr.heap.size, 3, none⟩ = some (.string x.s) := cell_at (heap_alloc_new wr _) rfl
      have p1 := f8.2 _ _ (show (wr.alloc (.cells #[.slice ra rn rc', .int .i64 x.t, .int .i64 x.n, .string x.s] 46)).drew.cell? ⟨wr.heap.size, 1, none⟩ = some (.int .i64 x.t) from o1)
      have p2 := f8.2 _ _ (show (wr.alloc (.cells #[.slice ra rn rc', .int .i64 x.t, .int .i64 x.n, .string x.s] 46)).drew.cell? ⟨wr.heap.size, 2, none⟩ = some (.int .i64 x.n) from o2)
      have p3 := f8.2 _ _ (show (wr.alloc (.cells #[.slice ra rn rc', .int .i64 x.t, .int .i64 x.n, .string x.s] 46)).drew.cell? ⟨wr.heap.size, 3, none⟩ = some (.string x.s) from o3)
      have q1 := f9.2 _ _ (show (wr.alloc (.cells #[.slice ra rn rc', .int .i64 x.t, .int .i64 x.n, .string x.s] 46)).drew.cell? ⟨wr.heap.size, 1, none⟩ = some (.int .i64 x.t) from o1)
      have q2 := f9.2 _ _ (show (wr.alloc (.cells #[.slice ra rn rc', .int .i64 x.t, .int .i64 x.n, .string x.s] 46)).drew.cell? ⟨wr.heap.size, 2, none⟩ = some (.int .i64 x.n) from o2)
      have q3 := f9.2 _ _ (show (wr.alloc (.cells #[.slice ra rn rc', .int .i64 x.t, .int .i64 x.n, .string x.s] 46)).drew.cell? ⟨wr.heap.size, 3, none⟩ = some (.string x.s) from o3)
      have hc0 : 0 ≤ cc := by omega
      have hwi : IntKind.i64.wrap (cc + 1) = cc + 1 := by rw [IntKind.wrap_i64]; omega
      have hbn : ¬ b = wr.heap.size := by have := hB.size; omega
      have hbs : b < wr.heap.size := by have := hB.size; omega
      have hW2n : ¬ W2.heap.size = wr.heap.size := by have := hM.lt; omega
      unfold k3 at f1 f2 f3
      generalize x.t = xt at *
      generalize x.n = xn at *
      generalize x.s = xs at *
      clear hB1 f5 f6 f7 f8 f9 hx hkl hcc hcl hM hB hv0 hv1 hi1 hi2 HT hL hrv
      go_wp2
      first | (go_region_held (fun w' => w'.cell? ⟨wr.heap.size, 1, none⟩ = some (.int .i64 xt) ∧ w'.cell? ⟨wr.heap.size, 2, none⟩ = some (.int .i64 xn) ∧ w'.cell? ⟨wr.heap.size, 3, none⟩ = some (.string xs)) (go_keep) (fail)) | fail
      all_goals
        go_wp2
        refine ⟨?_, ?_⟩
        · first | exact HN.out | ((repeat apply Exists.intro); refine ⟨?_, rfl⟩; exact HN.out)
        · simp [intOf]
          try omega
    · obtain rfl : k = H.length := by omega
      rw [List.take_length, HlH.out] at hM
      have hVok : ∀ x ∈ l, VOk x := fun x hx => by
        rw [← HlH.out] at hx
        obtain ⟨y, hy, rfl⟩ := List.mem_map.1 hx
        exact ⟨(HOk.out.1 y hy).1, (HOk.out.1 y hy).2.1⟩
      have hlm : l.length ≤ 200 := by rw [← HlH.out, List.length_map]; exact hHl
      have HNe : Hid (nErr s.data.toList = 0) := HOk.out.2
      have HBw := Lib.hid (on1R HB.out hB)
      obtain ⟨W3, hW3⟩ : ∃ W3, W3 = wr.alloc (.cells #[.map (some W2.heap.size)] 55) := ⟨_, rfl⟩
      have hB3 : Below wr.heap.size wr W3 := by rw [hW3]; exact b_allocR (Below.refl _ _) _
      have hM3 : OwnM W3 Try.prog 24 enc3 W2.heap.size (gm l) := hM.of_block (hB3.block _ hM.lt)
      have hS3 : W3.heap.size = wr.heap.size + 1 := by rw [hW3]; simp
      have cK := keys_any (some W2.heap.size) wr
      have cS := sortedFunc_any wr.heap.size W2.heap.size W3 (by omega) (by rw [hW3]; exact cell_at (heap_alloc_new wr _) rfl) hM3 (fun ss hnd hg => Nat.le_trans (len_sub ss l hnd (fun x hx => (gm_mem l x).1 (hg x hx))) (by omega)) (fun x hx => hVok x ((gm_mem l x).1 hx))
      rw [← hW3] at cK
      unfold KyP at cS
      have H3 := Lib.hid (And.intro hM3 (And.intro (on1R HBw.out hB3) hVok))
      clear hM hB hB3 hM3 hVok hW3 hS3 HOk HCH HB hmm hlt hk
      go_wp2_with (first | (go_at_call 20; refine cK.mono ?_; rintro e W3' ⟨rfl, rfl⟩) | (go_at_call 19; refine cS.mono ?_; rintro e W4 ⟨v4, ss, rfl, hnd, hS, ho4, hB4⟩; refine Hid.out ?_))
      refine Lib.hid ?_
      obtain ⟨a4, c4, rfl⟩ := own_slice ho4
      have HS := Lib.hid (And.intro hnd (fun x => (hS x).trans (gm_mem l x)))
      have hsl : ss.length ≤ 200 := Nat.le_trans (len_sub ss l hnd (fun x hx => (HS.out.2 x).1 hx)) hlm
      have H4 := Lib.hid (And.intro (H3.out.1.of_block (hB4.block _ H3.out.1.lt)) (And.intro (on1R H3.out.2.1 hB4) ho4))
      clear cK cS hnd hS ho4 hB4
      go_wp2
      go_loopw [12, 49] (fun v i wr => ∃ k : Nat, k ≤ ss.length ∧ i = .int .i64 (k : Int) ∧ OwnRs wr W4.heap.size v ((ss.take k).map fun x => grp s x (l.count x : Nat)) ∧ Below W4.heap.size W4 wr) (fun _ i _ => ss.length - (intOf i).toNat)
      case atStart => exact ⟨0, Nat.zero_le _, rfl, ownRs_nil _ _, Below.refl _ _⟩
      case round =>
        obtain ⟨k, hk, rfl, ⟨C, hCl, hO, hC⟩, hB⟩ := hrel
        obtain ⟨av, cv, hv12⟩ := own_slice hO
        subst hv12
        by_cases hlt : k < ss.length
        · obtain ⟨x, hx⟩ : ∃ x, ss[k]? = some x := ⟨_, List.getElem?_eq_getElem hlt⟩
          have hxs : x ∈ ss := List.mem_of_getElem? hx
          have hxl : x ∈ l := (HS.out.2 x).1 hxs
          have hxv := H3.out.2.2 x hxl
          obtain ⟨g, cg, hag⟩ : ∃ g cg, Value.slice a4 ss.length c4 = .slice (some ⟨g, 0, none⟩) ss.length cg := by
            rcases H4.out.2.2.2 with ⟨_, h0⟩ | ⟨g, cap, cur, e, _⟩
            · omega
            · exact ⟨g, cap, e⟩
          injection hag with e1 _ e3
          subst e1 e3
          have hgl : g < W4.heap.size := (H4.out.2.2.lt g rfl).2
          have hcs := H4.out.2.2.cells (g := g) rfl
          obtain ⟨m0, m1, m2⟩ := cells3_at hx
          have d0 : wr.cell? ⟨g, k * 3, none⟩ = some (.int .i64 x.t) := (hB.cell (p := ⟨g, k * 3, none⟩) hgl).trans (by have := hcs _ _ m0; rw [Addr.add_lit] at this; simpa using this)
          have d1 : wr.cell? ⟨g, k * 3 + 1, none⟩ = some (.int .i64 x.n) := (hB.cell (p := ⟨g, k * 3 + 1, none⟩) hgl).trans (by have := hcs _ _ m1; rw [Addr.add_lit] at this; simpa using this)
          have d2 : wr.cell? ⟨g, k * 3 + 2, none⟩ = some (.string x.s) := (hB.cell (p := ⟨g, k * 3 + 2, none⟩) hgl).trans (by have := hcs _ _ m2; rw [Addr.add_lit] at this; simpa using this)
          have HT := Lib.hid (take_mapS (fun x : V3 => grp s x (l.count x : Nat)) hx)
          have hBA : Below wr.heap.size wr (wr.alloc (.cells #[.int .i64 x.t, .int .i64 x.n, .string x.s] 24)).drew := b_drew1 (b_allocR (Below.refl _ _) _)
          have hMA : OwnM (wr.alloc (.cells #[.int .i64 x.t, .int .i64 x.n, .string x.s] 24)).drew Try.prog 24 enc3 W2.heap.size (gm l) := H4.out.1.of_block ((on1R hB hBA).block _ H4.out.1.lt)
          obtain ⟨hi1, hi2⟩ := vok_in hxv.1
          obtain ⟨lt, hkl⟩ := key3 hi1 hi2 hxv.2
          have hlk := OwnM.look hMA keyed3 enc3_inj Try.underlying55 (zero3 _) hkl false
          simp only [Bool.false_eq_true, if_false] at hlk
          rw [gm_get] at hlk
          unfold enc3 at hlk
          have hcl : (l.count x : Int) ≤ 1000 := by have := List.count_le_length (a := x) (l := l); omega
          obtain ⟨cc, hcc⟩ : ∃ cc : Int, (l.count x : Nat) = cc := ⟨_, rfl⟩
          have hc0 : 0 ≤ cc := by omega
          rw [hcc] at hlk hcl
          have cG := group_any s x cc (wr.alloc (.cells #[.int .i64 x.t, .int .i64 x.n, .string x.s] 24)).drew HNe.out hxv hc0 hcl
          have HT2 : Hid ((ss.take (k + 1)).map (fun x : V3 => grp s x (l.count x : Nat)) = (ss.take k).map (fun x : V3 => grp s x (l.count x : Nat)) ++ [grp s x cc]) := by rw [← hcc]; exact HT.out
          have HM : Hid (((ss.take k).map fun x : V3 => grp s x (l.count x : Nat)).length + 1 ≤ maxLen ∧ (((ss.take k).map fun x : V3 => grp s x (l.count x : Nat)).length + 1) * 24 ≤ 140737488355328) := by
            have : ((ss.take k).map fun x : V3 => grp s x (l.count x : Nat)).length ≤ 200 := by rw [List.length_map, List.length_take]; omega
            unfold maxLen; exact ⟨by omega, by omega⟩
          have HK : Hid (wr.ownsRow W4.heap.size 28 1 (.slice av ((ss.take k).map fun x : V3 => grp s x (l.count x : Nat)).length cv) ((ss.take k).map fun x : V3 => grp s x (l.count x : Nat)).length C ∧ C.length = ((ss.take k).map fun x : V3 => grp s x (l.count x : Nat)).length ∧ (∀ (j : Nat) u rc, C[j]? = some u → ((ss.take k).map fun x : V3 => grp s x (l.count x : Nat))[j]? = some rc → wr.ownsRow W4.heap.size 26 4 u rc.length (cellsOf rc)) ∧ Below W4.heap.size W4 wr ∧ Below wr.heap.size wr (wr.alloc (.cells #[.int .i64 x.t, .int .i64 x.n, .string x.s] 24)).drew) := ⟨hO, hCl, hC, hB, hBA⟩
          have o0 : (wr.alloc (.cells #[.int .i64 x.t, .int .i64 x.n, .string x.s] 24)).cell? ⟨wr.heap.size, 0, none⟩ = some (.int .i64 x.t) := cell_at (heap_alloc_new wr _) rfl
          have o1 : (wr.alloc (.cells #[.int .i64 x.t, .int .i64 x.n, .string x.s] 24)).cell? ⟨wr.heap.size, 1, none⟩ = some (.int .i64 x.n) := cell_at (heap_alloc_new wr _) rfl
          have o2 : (wr.alloc (.cells #[.int .i64 x.t, .int .i64 x.n, .string x.s] 24)).cell? ⟨wr.heap.size, 2, none⟩ = some (.string x.s) := cell_at (heap_alloc_new wr _) rfl
          have hgn : ¬ g = wr.heap.size := by have := hB.size; omega
          generalize grp s x cc = RC at cG HT2
          generalize ((ss.take k).map fun x : V3 => grp s x (l.count x : Nat)) = MM at HM HK HT2 ⊢
          clear hO hC hB hBA hMA hCl HT m0 m1 m2 hcs hkl hi1 hi2 hxs hxl hxv hcl hc0 hcc hx
          go_wp2
          go_region_law (first | (go_simp; go_at_call 21; refine cG.mono ?_; rintro e W5 ⟨u5, rfl, hu5, hB5⟩; obtain ⟨ua, uc, rfl⟩ := own_slice hu5; have HU := Lib.hid (And.intro (own_base hu5 (show wr.heap.size ≤ _ from HK.out.2.2.2.2.size)) (on1R HK.out.2.2.2.2 hB5)); have HO1 := Lib.hid ((own_kt HK.out.1 (Kt.of_below HU.out.2)).alloc (.cells #[.slice ua RC.length uc] 28)); have HSZ : Hid (W4.heap.size ≤ (W5.alloc (.cells #[.slice ua RC.length uc] 28)).heap.size) := (by have := HK.out.2.2.2.1.size; have := HU.out.2.size; show _ ≤ _; simp; omega); clear hu5 hB5) | (refine step_append_own rfl (.tmp 53) (.tmp 60) 22 rfl W4.heap.size 28 i0 _ 1 24 Try.underlying22 hi0 hz0 hz1 hz2 rfl (by decide) (.slice av MM.length cv) MM.length C (by simp [Act.eval, Act.put]) HO1.out ⟨W5.heap.size, 0, none⟩ 1 1 [.slice ua RC.length uc] (by simp [Act.eval, Act.put]) rfl (new_at W5 [.slice ua RC.length uc] 28) (by simp [Value.oneCell']) HM.out.1 HM.out.2 HSZ.out ?_; intro v1 w1 hown hgrow))
          all_goals
            have R : ∃ k' : Nat, k' ≤ ss.length ∧ Value.int .i64 ((k : Int) + 1) = .int .i64 (k' : Int) ∧ OwnRs w1 W4.heap.size v1 ((ss.take k').map fun x : V3 => grp s x (l.count x : Nat)) ∧ Below W4.heap.size W4 w1 := ⟨k + 1, by omega, by simp, by rw [HT2.out]; exact ownRs_step HK.out.2.1 HK.out.1 HK.out.2.2.1 HK.out.2.2.2.1.size HU.out.2 HU.out.1 _ hown hgrow, below_grown (b_allocR (on1R HK.out.2.2.2.1 HU.out.2) _) hgrow (b_allocR (on1R HK.out.2.2.2.1 HU.out.2) _).size (fun j hj => (HK.out.1.lt j hj).1)⟩
            go_wp2
            refine ⟨?_, ?_⟩
            · first | exact R | ((repeat apply Exists.intro); refine ⟨?_, rfl⟩; exact R)
            · simp [intOf]; omega
        · obtain rfl : k = ss.length := by omega
          have hF : OwnRs wr W4.heap.size (.slice av ((ss.take ss.length).map fun x : V3 => grp s x (l.count x : Nat)).length cv) (ss.map fun x => grp s x (l.count x : Nat)) := by
            have : OwnRs wr W4.heap.size (.slice av ((ss.take ss.length).map fun x : V3 => grp s x (l.count x : Nat)).length cv) ((ss.take ss.length).map fun x => grp s x (l.count x : Nat)) := ⟨C, hCl, hO, hC⟩
            exact Eq.mp (congrArg (OwnRs wr W4.heap.size _) (show ((ss.take ss.length).map fun x : V3 => grp s x (l.count x : Nat)) = ss.map fun x => grp s x (l.count x : Nat) by rw [List.take_length])) this
          have HF := Lib.hid (And.intro (hF.base H4.out.2.1.size) (on1R H4.out.2.1 hB))
          clear hO hC hCl hF hB
          generalize Value.slice av ((ss.take ss.length).map fun x : V3 => grp s x (l.count x : Nat)).length cv = vf at HF ⊢
          go_wp2
          go_ret2
          exact ⟨vf, ss, rfl, HS.out.1, HS.out.2, HF.out.1, HF.out.2⟩

set_option maxHeartbeats 4000000 in
set_option maxRecDepth 100000 in
theorem group_n {v : Value} {L : List Rv} {w : World} (h : IsRs w v L) (hz : SzRs L) (hm : L.length ≤ maxLen) (s : ByteArray) (hs : s.size ≤ maxLen) (he : askRE L s.data.toList = 0) (hsn : (s.toList == [110]) = true) :
    Calls Try.prog 7 #[v, .string s] w fun e w' => e = .returned (.tuple #[.slice none 0 0, .iface 52 (.int .i64 3)]) ∧ Below w.heap.size w w' := by
  have c1 := checkAsked_any h hz hm s hs
  rw [he, errV_0] at c1
  clear h hz hm he
  go_enter Try.func7, Try.ntmps7
  go_wp2_with (first | (go_at_call 9; refine c1.mono ?_; rintro e W1 ⟨rfl, hB1⟩))
  go_ret2
  exact ⟨rfl, hB1⟩
set_option maxHeartbeats 4000000 in
set_option maxRecDepth 100000 in
theorem sort_err {v : Value} {L : List Rv} {w : World} (h : IsRs w v L) (hz : SzRs L) (hm : L.length ≤ maxLen) (s : ByteArray) (hs : s.size ≤ maxLen) (down : Bool) (he : ¬ askRE L s.data.toList = 0) :
    Calls Try.prog 4 #[v, .string s, .bool down] w fun e w' => e = .returned (.tuple #[.slice none 0 0, .iface 52 (.int .i64 (askRE L s.data.toList))]) ∧ Below w.heap.size w w' := by
  have c1 := checkAsked_any h hz hm s hs
  rw [errV_ne he] at c1
  generalize askRE L s.data.toList = ee at *
  clear h hz hm he
  go_enter Try.func4, Try.ntmps4
  go_wp2_with (first | (go_at_call 9; refine c1.mono ?_; rintro e W1 ⟨rfl, hB1⟩))
  go_ret2
  exact ⟨rfl, hB1⟩
end Go.Proofs.Ytodddcacngjadaa
