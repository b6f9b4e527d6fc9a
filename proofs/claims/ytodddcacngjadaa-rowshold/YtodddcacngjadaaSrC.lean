/-
  The walk of Sort.
-/
import Derived.Test.YtodddcacngjadaaSrB
namespace Go.Proofs.Ytodddcacngjadaa
open Go.RowKit
set_option linter.unusedVariables false
set_option linter.unusedSimpArgs false

theorem OwnRs.base {w : World} {base base' : Nat} {v : Value} {M : List (List Pr)} (h : OwnRs w base v M) (hb : base' ≤ base) : OwnRs w base' v M := by
  obtain ⟨C, hl, ho, hC⟩ := h
  exact ⟨C, hl, own_base ho hb, fun j u rc h1 h2 => own_base (hC j u rc h1 h2) hb⟩
/-- What Sort gives. -/
def SoP (w : World) (nm : List UInt8) (down : Bool) (L : List Rv) (e : Ending) (w' : World) : Prop :=
  ∃ (v : Value) (H : List HvS), e = .returned (.tuple #[v, .nilIface]) ∧ (H.map Subtype.val).Perm (haveL nm L) ∧ H.Pairwise (fun x y => ¬ cfH down y x < 0) ∧ OwnRs w' w.heap.size v (H.map (fun h => h.1.r.rc) ++ (lackL nm L).map Rv.rc) ∧ Below w.heap.size w w'
theorem flat_val (H : List HvS) : H.flatMap encH = cellsH (H.map Subtype.val) := by
  unfold cellsH
  rw [List.flatMap_map]; rfl
theorem own_isRs {w : World} {base : Nat} {v : Value} {L : List Rv} (h : w.ownsRow base 28 1 v L.length (cellsR L)) (hr : ∀ x ∈ L, IsR w x.rv x.rc) : IsRs w v L := by
  have hc : ∀ g, v.ownBlock = some g → ∀ j u, (cellsR L)[j]? = some u → w.cell? ((⟨g, 0, none⟩ : Addr).add j) = some u := fun g hg => h.cells hg
  rcases h.2 with ⟨rfl, h0⟩ | ⟨g, cap, cur, rfl, hb, hg, hle, hcm, hcs, ht⟩
  · exact ⟨none, 0, by rw [h0], .inl (List.eq_nil_of_length_eq_zero h0)⟩
  · refine ⟨_, cap, rfl, .inr ⟨g, 0, rfl, (Array.getElem?_eq_some_iff.1 hg).1, fun k x hx => ?_⟩⟩
    have d0 := hc g rfl k x.rv (by unfold cellsR; rw [List.getElem?_map, hx]; rfl)
    rw [Addr.add_lit] at d0
    exact ⟨d0, hr x (List.mem_of_getElem? hx)⟩
theorem have_mem {nm : List UInt8} {L : List Rv} {h : Hv} (hm : h ∈ haveL nm L) : h.r ∈ L := by
  unfold haveL at hm
  obtain ⟨y, hy, he⟩ := List.mem_filterMap.1 hm
  unfold hvOf at he
  obtain ⟨q, hq, rfl⟩ := Option.map_eq_some_iff.1 he
  exact hy
theorem rs_mem {w : World} {v : Value} {L : List Rv} (h : IsRs w v L) {x : Rv} (hx : x ∈ L) : IsR w x.rv x.rc := by
  obtain ⟨ao, c, rfl, h0 | ⟨b, off, rfl, hb, hL⟩⟩ := h
  · rw [h0] at hx; simp at hx
  · obtain ⟨j, hj⟩ := List.mem_iff_getElem?.1 hx
    exact (hL j x hj).2
theorem un_rc (H : List HvS) : List.map (fun x : Hv => x.r.rc) H.unattach = List.map (fun h : HvS => h.1.r.rc) H := by
  unfold List.unattach
  rw [List.map_map]; rfl
theorem take_mapS {α β : Type} (f : α → β) {H : List α} {k : Nat} {x : α} (h : H[k]? = some x) : (H.take (k + 1)).map f = (H.take k).map f ++ [f x] := by
  obtain ⟨hk, rfl⟩ := List.getElem?_eq_some_iff.1 h
  rw [List.take_succ_eq_append_getElem hk, List.map_append]; rfl

set_option maxHeartbeats 8000000 in
set_option maxRecDepth 100000 in
theorem sort_ok {v : Value} {L : List Rv} {w : World} (h : IsRs w v L) (hz : SzRs L) (hm : L.length ≤ maxLen) (s : ByteArray) (hs : s.size ≤ maxLen) (down : Bool) (he : askRE L s.data.toList = 0) :
    Calls Try.prog 4 #[v, .string s, .bool down] w (SoP w s.toList down L) := by
  obtain ⟨i0, hi0, hz0, hz1, hz2⟩ := info_partsR infoRc
  have c1 := checkAsked_any h hz hm s hs
  rw [he, errV_0] at c1
  obtain ⟨hl, hr, _⟩ := askRE_ok he
  have hok := have_ok h hz hr s.toList
  have c2 := fun (W : World) (hW : Below w.heap.size w W) => parted_any (h.on hW) hz hl hr s
  have hHl : (haveL s.toList L).length ≤ 200 := Nat.le_trans (have_len _ _) hl
  have hKl : (lackL s.toList L).length ≤ 200 := Nat.le_trans (lack_len _ _) hl
  obtain ⟨Hs, hHs⟩ : ∃ Hs : List HvS, Hs.map Subtype.val = haveL s.toList L := ⟨(haveL s.toList L).attach.map fun x => ⟨x.1, hok x.1 x.2⟩, by rw [List.map_map]; exact List.attach_map_subtype_val _⟩
  have HR : Hid ((∀ x ∈ haveL s.toList L, IsR w x.r.rv x.r.rc ∧ x.r.rc.length ≤ 8) ∧ (∀ x ∈ lackL s.toList L, IsR w x.rv x.rc ∧ x.rc.length ≤ 8)) :=
    ⟨fun x hx => ⟨rs_mem h (have_mem hx), rErr_len (rsE_all hr _ (have_mem hx))⟩, fun x hx => ⟨rs_mem h ((List.mem_filter.1 hx).1), rErr_len (rsE_all hr _ ((List.mem_filter.1 hx).1))⟩⟩
  unfold PaP PaR at c2
  have HHs := Lib.hid hHs
  have hlHs : Hs.length ≤ 200 := by rw [← List.length_map (f := Subtype.val), hHs]; exact hHl
  clear h hz hm hl hr he hok hHs
  unfold SoP
  generalize lackL s.toList L = K at c2 HR hKl ⊢
  generalize haveL s.toList L = HV at c2 HR HHs hHl ⊢
  cases down with
  | true =>
    go_enter Try.func4, Try.ntmps4
    go_wp2_with (first | (go_at_call 9; refine c1.mono ?_; rintro e W1 ⟨rfl, hB1⟩) | (go_at_call 10; refine (c2 W1 hB1).mono ?_; rintro e W2 ⟨vh, vl, rfl, ho1, ho2, hB2⟩; refine Hid.out ?_))
    refine Lib.hid ?_
    obtain ⟨ah, ch, rfl⟩ := own_slice ho1
    obtain ⟨al, cl, rfl⟩ := own_slice ho2
    obtain ⟨W3, hW3⟩ : ∃ W3, W3 = W2.alloc (.cells #[.int .i64 (-1)] 3) := ⟨_, rfl⟩
    have hB3 : Below W2.heap.size W2 W3 := by rw [hW3]; exact b_allocR (Below.refl _ _) _
    have ho1' : W3.ownsRow W1.heap.size 46 4 (.slice ah HV.length ch) Hs.length (Hs.flatMap encH) := by
      rw [flat_val, HHs.out, ← List.length_map (f := Subtype.val), HHs.out, hW3]; exact ho1.alloc _
    have ho2' : W3.ownsRow W1.heap.size 28 1 (.slice al K.length cl) K.length (cellsR K) := by rw [hW3]; exact ho2.alloc _
    have hcw : W3.cell? ⟨W2.heap.size, 0, none⟩ = some (.int .i64 (wayV true)) := by rw [hW3]; exact cell_at (heap_alloc_new W2 _) rfl
    have c3 := sortH_any true Hs ho1' (by omega) W2.heap.size hcw (fun e => by have := (ho1.lt _ e).2; omega)
    have HB3 := Lib.hid (on1R (on1R hB1 hB2) hB3)
    have HO := Lib.hid (And.intro ho2' (And.intro ho1' hB1.size))
    have hsz1 : w.heap.size ≤ W1.heap.size := hB1.size
    clear c1 c2 ho1 ho2 ho1' ho2' hB3 hB2 hB1 hcw
    go_upto_region 8 with fail
    rw [← hW3]
    clear hW3
    go_wp2_with (go_at_call 11; refine c3.mono ?_; rintro e W4 ⟨rfl, H, hperm, hpw, ho4, hg4⟩; refine Hid.out ?_)
    refine Lib.hid ?_
    have hB4 : Below w.heap.size w W4 := below_grown HB3.out hg4 HB3.out.size (fun b hb => Nat.le_trans hsz1 (HO.out.2.1.lt b hb).1)
    have hl4 : W4.ownsRow W1.heap.size 28 1 (.slice al K.length cl) K.length (cellsR K) := own_kt HO.out.1 (Kt.of_own HO.out.2.1 (by decide) hg4)
    have hpv : (H.map Subtype.val).Perm HV := by rw [← HHs.out]; exact hperm.map _
    have hlen : H.length = HV.length := by have := hpv.length_eq; simpa using this
    have hIH : IsH W4 (.slice ah HV.length ch) (H.map Subtype.val) := own_isH (by rw [List.length_map, ← flat_val]; exact ho4)
    have hIK : IsRs W4 (.slice al K.length cl) K := own_isRs hl4 (fun x hx => (HR.out.2 x hx).1.on hB4)
    have HRH : Hid (∀ x ∈ H, IsR W4 x.1.r.rv x.1.r.rc ∧ x.1.r.rc.length ≤ 8) := fun x hx => by
      have hm : x.1 ∈ HV := hpv.subset (List.mem_map_of_mem hx)
      exact ⟨(HR.out.1 x.1 hm).1.on hB4, (HR.out.1 x.1 hm).2⟩
    have HRK : Hid (∀ x ∈ K, x.rc.length ≤ 8) := fun x hx => (HR.out.2 x hx).2
    have HP := Lib.hid (And.intro hpv (And.intro hpw hB4))
    obtain ⟨a2, c2', ee, hch, hcsH⟩ := hIH
    obtain ⟨ak, ck, ek, hcsK⟩ := hIK
    injection ee with e1 e2 e3
    subst e1 e3
    injection ek with e4 e5 e6
    subst e4 e6
    have HCH := Lib.hid hcsH
    have HCK := Lib.hid hcsK
    have hHl2 : H.length ≤ 200 := by omega
    have hHl3 : H.length ≤ HV.length := by omega
    have hHl4 : HV.length ≤ H.length := by omega
    clear c3 hpv hpw hperm ho4 hg4 hl4 hB4 hcsH hcsK e2 e5 HB3 HO hlen hch
    go_wp2
    go_loopw [12, 35] (fun v i wr => ∃ k : Nat, k ≤ H.length ∧ i = .int .i64 (k : Int) ∧ OwnRs wr W4.heap.size v ((H.take k).map fun h => h.1.r.rc) ∧ Below W4.heap.size W4 wr) (fun _ i _ => HV.length - (intOf i).toNat)
    case atStart => exact ⟨0, Nat.zero_le _, rfl, ownRs_nil _ _, Below.refl _ _⟩
    case round =>
      obtain ⟨k, hk, rfl, ⟨C, hCl, hO, hC⟩, hB⟩ := hrel
      obtain ⟨av, cv, hv12⟩ := own_slice hO
      subst hv12
      by_cases hlt : k < H.length
      · have hltz : (k : Int) < (HV.length : Int) := by omega
        obtain ⟨x, hx⟩ : ∃ x, H[k]? = some x := ⟨_, List.getElem?_eq_getElem hlt⟩
        have hxv : (H.map Subtype.val)[k]? = some x.1 := by rw [List.getElem?_map, hx]; rfl
        obtain ⟨b, off, rfl, hbl, hL⟩ := HCH.out.resolve_left (fun e => by have := congrArg List.length e; simp at this; rw [this] at hlt; simp at hlt)
        obtain ⟨l0, l1, l2, l3⟩ := (hL.on hbl hB) k x.1 hxv
        obtain ⟨hRx, h8⟩ := HRH.out x (List.mem_of_getElem? hx)
        obtain ⟨ra, rn, rc', hrv⟩ := x.2.2.2
        have HT := Lib.hid (take_mapS (fun h : HvS => h.1.r.rc) hx)
        have hBA : Below wr.heap.size wr (wr.alloc (.cells #[.slice ra rn rc', .int .i64 x.1.t, .int .i64 x.1.n, .string x.1.s] 46)) := b_allocR (Below.refl _ _) _
        have cC := copied_any ((hRx.on hB).on hBA) h8
        rw [hrv] at cC l0
        have q0 : (wr.alloc (.cells #[.slice ra rn rc', .int .i64 x.1.t, .int .i64 x.1.n, .string x.1.s] 46)).cell? ⟨wr.heap.size, 0, none⟩ = some (.slice ra rn rc') := cell_at (heap_alloc_new wr _) rfl
        have HM : Hid (((H.take k).map fun h => h.1.r.rc).length + 1 ≤ maxLen ∧ (((H.take k).map fun h => h.1.r.rc).length + 1) * 24 ≤ 140737488355328) := by
          have : ((H.take k).map fun h : HvS => h.1.r.rc).length ≤ 200 := by simp; omega
          unfold maxLen; exact ⟨by omega, by omega⟩
        have HK : Hid (wr.ownsRow W4.heap.size 28 1 (.slice av ((H.take k).map fun h : HvS => h.1.r.rc).length cv) ((H.take k).map fun h : HvS => h.1.r.rc).length C ∧ C.length = ((H.take k).map fun h : HvS => h.1.r.rc).length ∧ (∀ (j : Nat) u rc, C[j]? = some u → ((H.take k).map fun h : HvS => h.1.r.rc)[j]? = some rc → wr.ownsRow W4.heap.size 26 4 u rc.length (cellsOf rc)) ∧ Below W4.heap.size W4 wr ∧ Below wr.heap.size wr (wr.alloc (.cells #[.slice ra rn rc', .int .i64 x.1.t, .int .i64 x.1.n, .string x.1.s] 46))) := ⟨hO, hCl, hC, hB, hBA⟩
        generalize x.1.r.rc = RC at cC HT
        generalize ((H.take k).map fun h : HvS => h.1.r.rc) = MM at HM HK HT ⊢
        clear hO hC hB hBA hL hRx hxv hCl h8
        go_wp2_with (first | (go_at_call 14; refine cC.mono ?_; rintro e W5 ⟨u5, rfl, hu5, hB5⟩; obtain ⟨ua, uc, rfl⟩ := own_slice hu5; have HU := Lib.hid (And.intro (own_base hu5 (show wr.heap.size ≤ _ by simp)) (on1R HK.out.2.2.2.2 hB5)); have HO1 := Lib.hid ((own_kt HK.out.1 (Kt.of_below HU.out.2)).alloc (.cells #[.slice ua RC.length uc] 28)); have HSZ : Hid (W4.heap.size ≤ (W5.alloc (.cells #[.slice ua RC.length uc] 28)).heap.size) := (by have := HK.out.2.2.2.1.size; have := HU.out.2.size; show _ ≤ _; simp; omega); clear hu5 hB5) | (at_builtin; refine wpList_append_own _ rfl (.tmp 39) (.tmp 43) 22 rfl W4.heap.size 28 i0 _ 1 24 Try.underlying22 hi0 hz0 hz1 hz2 rfl (by decide) (.slice av MM.length cv) MM.length C rfl HO1.out ⟨W5.heap.size, 0, none⟩ 1 1 [.slice ua RC.length uc] rfl rfl (new_at W5 [.slice ua RC.length uc] 28) (by simp [Value.oneCell']) HM.out.1 HM.out.2 HSZ.out ?_; intro v1 w1 hown hgrow _))
        have R : ∃ k' : Nat, k' ≤ H.length ∧ Value.int .i64 ((k : Int) + 1) = .int .i64 (k' : Int) ∧ OwnRs w1 W4.heap.size v1 ((H.take k').map fun h : HvS => h.1.r.rc) ∧ Below W4.heap.size W4 w1 := ⟨k + 1, by omega, by simp, by rw [HT.out]; exact ownRs_step HK.out.2.1 HK.out.1 HK.out.2.2.1 HK.out.2.2.2.1.size HU.out.2 HU.out.1 _ hown hgrow, below_grown (b_allocR (on1R HK.out.2.2.2.1 HU.out.2) _) hgrow (b_allocR (on1R HK.out.2.2.2.1 HU.out.2) _).size (fun j hj => (HK.out.1.lt j hj).1)⟩
        refine ⟨?_, ?_⟩
        · first | exact R | ((repeat apply Exists.intro); refine ⟨?_, rfl⟩; exact R)
        · simp [intOf]; omega
      · have hltz : ¬ (k : Int) < (HV.length : Int) := by omega
        obtain rfl : k = H.length := by omega
        have hO2 : OwnRs wr W4.heap.size (.slice av ((H.take H.length).map fun h : HvS => h.1.r.rc).length cv) (H.map fun h => h.1.r.rc) := by
          have : OwnRs wr W4.heap.size (.slice av ((H.take H.length).map fun h : HvS => h.1.r.rc).length cv) ((H.take H.length).map fun h => h.1.r.rc) := ⟨C, hCl, hO, hC⟩
          exact Eq.mp (congrArg (OwnRs wr W4.heap.size _) (show ((H.take H.length).map fun h : HvS => h.1.r.rc) = H.map fun h => h.1.r.rc by rw [List.take_length])) this
        have HO2 := Lib.hid (And.intro hO2 hB)
        clear hO hC hCl hO2 hB
        generalize Value.slice av ((H.take H.length).map fun h : HvS => h.1.r.rc).length cv = v12 at HO2 ⊢
        obtain ⟨W6, hW6⟩ : ∃ W6, W6 = wr := ⟨wr, rfl⟩
        subst hW6
        go_wp2
        go_loopw [12, 48] (fun v i wr => ∃ k : Nat, k ≤ K.length ∧ i = .int .i64 (k : Int) ∧ OwnRs wr W4.heap.size v ((H.map fun h => h.1.r.rc) ++ (K.take k).map Rv.rc) ∧ Below W4.heap.size W4 wr) (fun _ i _ => K.length - (intOf i).toNat)
        case atStart => exact ⟨0, Nat.zero_le _, rfl, by rw [List.take_zero, List.map_nil, List.append_nil]; exact HO2.out.1, HO2.out.2⟩
        case round =>
          clear HO2
          obtain ⟨k, hk2, rfl, ⟨C, hCl, hO, hC⟩, hB⟩ := hrel
          obtain ⟨av, cv, hv12⟩ := own_slice hO
          subst hv12
          by_cases hlt2 : k < K.length
          · obtain ⟨x, hx⟩ : ∃ x, K[k]? = some x := ⟨_, List.getElem?_eq_getElem hlt2⟩
            obtain ⟨b, off, rfl, hbl, hL⟩ := HCK.out.resolve_left (fun e => by rw [e] at hlt2; simp at hlt2)
            obtain ⟨l0, hRx⟩ := (hL.on hbl hB) k x hx
            have h8 := HRK.out x (List.mem_of_getElem? hx)
            obtain ⟨ra, rn, hrv⟩ : ∃ ra rn, x.rv = .slice ra x.rc.length rn := by obtain ⟨a, c, e, _⟩ := hRx; exact ⟨a, c, e⟩
            have HT : Hid ((H.map fun h : HvS => h.1.r.rc) ++ (K.take (k + 1)).map Rv.rc = ((H.map fun h : HvS => h.1.r.rc) ++ (K.take k).map Rv.rc) ++ [x.rc]) := by show _ = _; rw [take_mapS Rv.rc hx, List.append_assoc]
            have cC := copied_any hRx h8
            rw [hrv] at cC l0
            have HM : Hid (((H.map fun h : HvS => h.1.r.rc) ++ (K.take k).map Rv.rc).length + 1 ≤ maxLen ∧ (((H.map fun h : HvS => h.1.r.rc) ++ (K.take k).map Rv.rc).length + 1) * 24 ≤ 140737488355328) := by
              have : ((H.map fun h : HvS => h.1.r.rc) ++ (K.take k).map Rv.rc).length ≤ 400 := by simp; omega
              unfold maxLen; exact ⟨by omega, by omega⟩
            have HK : Hid (wr.ownsRow W4.heap.size 28 1 (.slice av ((H.map fun h : HvS => h.1.r.rc) ++ (K.take k).map Rv.rc).length cv) ((H.map fun h : HvS => h.1.r.rc) ++ (K.take k).map Rv.rc).length C ∧ C.length = ((H.map fun h : HvS => h.1.r.rc) ++ (K.take k).map Rv.rc).length ∧ (∀ (j : Nat) u rc, C[j]? = some u → ((H.map fun h : HvS => h.1.r.rc) ++ (K.take k).map Rv.rc)[j]? = some rc → wr.ownsRow W4.heap.size 26 4 u rc.length (cellsOf rc)) ∧ Below W4.heap.size W4 wr) := ⟨hO, hCl, hC, hB⟩
            generalize x.rc = RC at cC HT l0
            generalize (H.map fun h : HvS => h.1.r.rc) ++ (K.take k).map Rv.rc = MM at HM HK HT ⊢
            clear hO hC hB hL hRx hCl h8 hrv hx
            go_wp2_with (first | (go_at_call 14; refine cC.mono ?_; rintro e W5 ⟨u5, rfl, hu5, hB5⟩; obtain ⟨ua, uc, rfl⟩ := own_slice hu5; have HU := Lib.hid (And.intro hu5 hB5); have HO1 := Lib.hid ((own_kt HK.out.1 (Kt.of_below HU.out.2)).alloc (.cells #[.slice ua RC.length uc] 28)); have HSZ : Hid (W4.heap.size ≤ (W5.alloc (.cells #[.slice ua RC.length uc] 28)).heap.size) := (by have := HK.out.2.2.2.size; have := HU.out.2.size; show _ ≤ _; simp; omega); clear hu5 hB5) | (at_builtin; refine wpList_append_own _ rfl (.tmp 52) (.tmp 55) 22 rfl W4.heap.size 28 i0 _ 1 24 Try.underlying22 hi0 hz0 hz1 hz2 rfl (by decide) (.slice av MM.length cv) MM.length C rfl HO1.out ⟨W5.heap.size, 0, none⟩ 1 1 [.slice ua RC.length uc] rfl rfl (new_at W5 [.slice ua RC.length uc] 28) (by simp [Value.oneCell']) HM.out.1 HM.out.2 HSZ.out ?_; intro v1 w1 hown hgrow _))
            have R : ∃ k' : Nat, k' ≤ K.length ∧ Value.int .i64 ((k : Int) + 1) = .int .i64 (k' : Int) ∧ OwnRs w1 W4.heap.size v1 ((H.map fun h : HvS => h.1.r.rc) ++ (K.take k').map Rv.rc) ∧ Below W4.heap.size W4 w1 := ⟨k + 1, by omega, by simp, by rw [HT.out]; exact ownRs_step HK.out.2.1 HK.out.1 HK.out.2.2.1 HK.out.2.2.2.size HU.out.2 HU.out.1 _ hown hgrow, below_grown (b_allocR (on1R HK.out.2.2.2 HU.out.2) _) hgrow (b_allocR (on1R HK.out.2.2.2 HU.out.2) _).size (fun j hj => (HK.out.1.lt j hj).1)⟩
            refine ⟨?_, ?_⟩
            · first | exact R | ((repeat apply Exists.intro); refine ⟨?_, rfl⟩; exact R)
            · simp [intOf]; omega
          · obtain rfl : k = K.length := by omega
            have hF : OwnRs wr W4.heap.size (.slice av ((H.map fun h : HvS => h.1.r.rc) ++ (K.take K.length).map Rv.rc).length cv) ((H.map fun h => h.1.r.rc) ++ K.map Rv.rc) := by
              have : OwnRs wr W4.heap.size (.slice av ((H.map fun h : HvS => h.1.r.rc) ++ (K.take K.length).map Rv.rc).length cv) ((H.map fun h => h.1.r.rc) ++ (K.take K.length).map Rv.rc) := ⟨C, hCl, hO, hC⟩
              exact Eq.mp (congrArg (OwnRs wr W4.heap.size _) (show ((H.map fun h : HvS => h.1.r.rc) ++ (K.take K.length).map Rv.rc) = (H.map fun h => h.1.r.rc) ++ K.map Rv.rc by rw [List.take_length])) this
            have HF := Lib.hid (And.intro (hF.base HP.out.2.2.size) (on1R HP.out.2.2 hB))
            clear hO hC hCl hF hB
            generalize Value.slice av ((H.map fun h : HvS => h.1.r.rc) ++ (K.take K.length).map Rv.rc).length cv = vf at HF ⊢
            go_wp2
            go_ret2
            exact ⟨vf, rfl, H, HP.out.1, HP.out.2.1, by rw [un_rc]; exact HF.out.1, HF.out.2⟩
  | false =>
    go_enter Try.func4, Try.ntmps4
    go_wp2_with (first | (go_at_call 9; refine c1.mono ?_; rintro e W1 ⟨rfl, hB1⟩) | (go_at_call 10; refine (c2 W1 hB1).mono ?_; rintro e W2 ⟨vh, vl, rfl, ho1, ho2, hB2⟩; refine Hid.out ?_))
    refine Lib.hid ?_
    obtain ⟨ah, ch, rfl⟩ := own_slice ho1
    obtain ⟨al, cl, rfl⟩ := own_slice ho2
    obtain ⟨W3, hW3⟩ : ∃ W3, W3 = W2.alloc (.cells #[.int .i64 1] 3) := ⟨_, rfl⟩
    have hB3 : Below W2.heap.size W2 W3 := by rw [hW3]; exact b_allocR (Below.refl _ _) _
    have ho1' : W3.ownsRow W1.heap.size 46 4 (.slice ah HV.length ch) Hs.length (Hs.flatMap encH) := by
      rw [flat_val, HHs.out, ← List.length_map (f := Subtype.val), HHs.out, hW3]; exact ho1.alloc _
    have ho2' : W3.ownsRow W1.heap.size 28 1 (.slice al K.length cl) K.length (cellsR K) := by rw [hW3]; exact ho2.alloc _
    have hcw : W3.cell? ⟨W2.heap.size, 0, none⟩ = some (.int .i64 (wayV false)) := by rw [hW3]; exact cell_at (heap_alloc_new W2 _) rfl
    have c3 := sortH_any false Hs ho1' (by omega) W2.heap.size hcw (fun e => by have := (ho1.lt _ e).2; omega)
    have HB3 := Lib.hid (on1R (on1R hB1 hB2) hB3)
    have HO := Lib.hid (And.intro ho2' (And.intro ho1' hB1.size))
    have hsz1 : w.heap.size ≤ W1.heap.size := hB1.size
    clear c1 c2 ho1 ho2 ho1' ho2' hB3 hB2 hB1 hcw
    go_upto_region 8 with fail
    rw [← hW3]
    clear hW3
    go_wp2_with (go_at_call 11; refine c3.mono ?_; rintro e W4 ⟨rfl, H, hperm, hpw, ho4, hg4⟩; refine Hid.out ?_)
    refine Lib.hid ?_
    have hB4 : Below w.heap.size w W4 := below_grown HB3.out hg4 HB3.out.size (fun b hb => Nat.le_trans hsz1 (HO.out.2.1.lt b hb).1)
    have hl4 : W4.ownsRow W1.heap.size 28 1 (.slice al K.length cl) K.length (cellsR K) := own_kt HO.out.1 (Kt.of_own HO.out.2.1 (by decide) hg4)
    have hpv : (H.map Subtype.val).Perm HV := by rw [← HHs.out]; exact hperm.map _
    have hlen : H.length = HV.length := by have := hpv.length_eq; simpa using this
    have hIH : IsH W4 (.slice ah HV.length ch) (H.map Subtype.val) := own_isH (by rw [List.length_map, ← flat_val]; exact ho4)
    have hIK : IsRs W4 (.slice al K.length cl) K := own_isRs hl4 (fun x hx => (HR.out.2 x hx).1.on hB4)
    have HRH : Hid (∀ x ∈ H, IsR W4 x.1.r.rv x.1.r.rc ∧ x.1.r.rc.length ≤ 8) := fun x hx => by
      have hm : x.1 ∈ HV := hpv.subset (List.mem_map_of_mem hx)
      exact ⟨(HR.out.1 x.1 hm).1.on hB4, (HR.out.1 x.1 hm).2⟩
    have HRK : Hid (∀ x ∈ K, x.rc.length ≤ 8) := fun x hx => (HR.out.2 x hx).2
    have HP := Lib.hid (And.intro hpv (And.intro hpw hB4))
    obtain ⟨a2, c2', ee, hch, hcsH⟩ := hIH
    obtain ⟨ak, ck, ek, hcsK⟩ := hIK
    injection ee with e1 e2 e3
    subst e1 e3
    injection ek with e4 e5 e6
    subst e4 e6
    have HCH := Lib.hid hcsH
    have HCK := Lib.hid hcsK
    have hHl2 : H.length ≤ 200 := by omega
    have hHl3 : H.length ≤ HV.length := by omega
    have hHl4 : HV.length ≤ H.length := by omega
    clear c3 hpv hpw hperm ho4 hg4 hl4 hB4 hcsH hcsK e2 e5 HB3 HO hlen hch
    go_wp2
    go_loopw [12, 35] (fun v i wr => ∃ k : Nat, k ≤ H.length ∧ i = .int .i64 (k : Int) ∧ OwnRs wr W4.heap.size v ((H.take k).map fun h => h.1.r.rc) ∧ Below W4.heap.size W4 wr) (fun _ i _ => HV.length - (intOf i).toNat)
    case atStart => exact ⟨0, Nat.zero_le _, rfl, ownRs_nil _ _, Below.refl _ _⟩
    case round =>
      obtain ⟨k, hk, rfl, ⟨C, hCl, hO, hC⟩, hB⟩ := hrel
      obtain ⟨av, cv, hv12⟩ := own_slice hO
      subst hv12
      by_cases hlt : k < H.length
      · have hltz : (k : Int) < (HV.length : Int) := by omega
        obtain ⟨x, hx⟩ : ∃ x, H[k]? = some x := ⟨_, List.getElem?_eq_getElem hlt⟩
        have hxv : (H.map Subtype.val)[k]? = some x.1 := by rw [List.getElem?_map, hx]; rfl
        obtain ⟨b, off, rfl, hbl, hL⟩ := HCH.out.resolve_left (fun e => by have := congrArg List.length e; simp at this; rw [this] at hlt; simp at hlt)
        obtain ⟨l0, l1, l2, l3⟩ := (hL.on hbl hB) k x.1 hxv
        obtain ⟨hRx, h8⟩ := HRH.out x (List.mem_of_getElem? hx)
        obtain ⟨ra, rn, rc', hrv⟩ := x.2.2.2
        have HT := Lib.hid (take_mapS (fun h : HvS => h.1.r.rc) hx)
        have hBA : Below wr.heap.size wr (wr.alloc (.cells #[.slice ra rn rc', .int .i64 x.1.t, .int .i64 x.1.n, .string x.1.s] 46)) := b_allocR (Below.refl _ _) _
        have cC := copied_any ((hRx.on hB).on hBA) h8
        rw [hrv] at cC l0
        have q0 : (wr.alloc (.cells #[.slice ra rn rc', .int .i64 x.1.t, .int .i64 x.1.n, .string x.1.s] 46)).cell? ⟨wr.heap.size, 0, none⟩ = some (.slice ra rn rc') := cell_at (heap_alloc_new wr _) rfl
        have HM : Hid (((H.take k).map fun h => h.1.r.rc).length + 1 ≤ maxLen ∧ (((H.take k).map fun h => h.1.r.rc).length + 1) * 24 ≤ 140737488355328) := by
          have : ((H.take k).map fun h : HvS => h.1.r.rc).length ≤ 200 := by simp; omega
          unfold maxLen; exact ⟨by omega, by omega⟩
        have HK : Hid (wr.ownsRow W4.heap.size 28 1 (.slice av ((H.take k).map fun h : HvS => h.1.r.rc).length cv) ((H.take k).map fun h : HvS => h.1.r.rc).length C ∧ C.length = ((H.take k).map fun h : HvS => h.1.r.rc).length ∧ (∀ (j : Nat) u rc, C[j]? = some u → ((H.take k).map fun h : HvS => h.1.r.rc)[j]? = some rc → wr.ownsRow W4.heap.size 26 4 u rc.length (cellsOf rc)) ∧ Below W4.heap.size W4 wr ∧ Below wr.heap.size wr (wr.alloc (.cells #[.slice ra rn rc', .int .i64 x.1.t, .int .i64 x.1.n, .string x.1.s] 46))) := ⟨hO, hCl, hC, hB, hBA⟩
        generalize x.1.r.rc = RC at cC HT
        generalize ((H.take k).map fun h : HvS => h.1.r.rc) = MM at HM HK HT ⊢
        clear hO hC hB hBA hL hRx hxv hCl h8
        go_wp2_with (first | (go_at_call 14; refine cC.mono ?_; rintro e W5 ⟨u5, rfl, hu5, hB5⟩; obtain ⟨ua, uc, rfl⟩ := own_slice hu5; have HU := Lib.hid (And.intro (own_base hu5 (show wr.heap.size ≤ _ by simp)) (on1R HK.out.2.2.2.2 hB5)); have HO1 := Lib.hid ((own_kt HK.out.1 (Kt.of_below HU.out.2)).alloc (.cells #[.slice ua RC.length uc] 28)); have HSZ : Hid (W4.heap.size ≤ (W5.alloc (.cells #[.slice ua RC.length uc] 28)).heap.size) := (by have := HK.out.2.2.2.1.size; have := HU.out.2.size; show _ ≤ _; simp; omega); clear hu5 hB5) | (at_builtin; refine wpList_append_own _ rfl (.tmp 39) (.tmp 43) 22 rfl W4.heap.size 28 i0 _ 1 24 Try.underlying22 hi0 hz0 hz1 hz2 rfl (by decide) (.slice av MM.length cv) MM.length C rfl HO1.out ⟨W5.heap.size, 0, none⟩ 1 1 [.slice ua RC.length uc] rfl rfl (new_at W5 [.slice ua RC.length uc] 28) (by simp [Value.oneCell']) HM.out.1 HM.out.2 HSZ.out ?_; intro v1 w1 hown hgrow _))
        have R : ∃ k' : Nat, k' ≤ H.length ∧ Value.int .i64 ((k : Int) + 1) = .int .i64 (k' : Int) ∧ OwnRs w1 W4.heap.size v1 ((H.take k').map fun h : HvS => h.1.r.rc) ∧ Below W4.heap.size W4 w1 := ⟨k + 1, by omega, by simp, by rw [HT.out]; exact ownRs_step HK.out.2.1 HK.out.1 HK.out.2.2.1 HK.out.2.2.2.1.size HU.out.2 HU.out.1 _ hown hgrow, below_grown (b_allocR (on1R HK.out.2.2.2.1 HU.out.2) _) hgrow (b_allocR (on1R HK.out.2.2.2.1 HU.out.2) _).size (fun j hj => (HK.out.1.lt j hj).1)⟩
        refine ⟨?_, ?_⟩
        · first | exact R | ((repeat apply Exists.intro); refine ⟨?_, rfl⟩; exact R)
        · simp [intOf]; omega
      · have hltz : ¬ (k : Int) < (HV.length : Int) := by omega
        obtain rfl : k = H.length := by omega
        have hO2 : OwnRs wr W4.heap.size (.slice av ((H.take H.length).map fun h : HvS => h.1.r.rc).length cv) (H.map fun h => h.1.r.rc) := by
          have : OwnRs wr W4.heap.size (.slice av ((H.take H.length).map fun h : HvS => h.1.r.rc).length cv) ((H.take H.length).map fun h => h.1.r.rc) := ⟨C, hCl, hO, hC⟩
          exact Eq.mp (congrArg (OwnRs wr W4.heap.size _) (show ((H.take H.length).map fun h : HvS => h.1.r.rc) = H.map fun h => h.1.r.rc by rw [List.take_length])) this
        have HO2 := Lib.hid (And.intro hO2 hB)
        clear hO hC hCl hO2 hB
        generalize Value.slice av ((H.take H.length).map fun h : HvS => h.1.r.rc).length cv = v12 at HO2 ⊢
        obtain ⟨W6, hW6⟩ : ∃ W6, W6 = wr := ⟨wr, rfl⟩
        subst hW6
        go_wp2
        go_loopw [12, 48] (fun v i wr => ∃ k : Nat, k ≤ K.length ∧ i = .int .i64 (k : Int) ∧ OwnRs wr W4.heap.size v ((H.map fun h => h.1.r.rc) ++ (K.take k).map Rv.rc) ∧ Below W4.heap.size W4 wr) (fun _ i _ => K.length - (intOf i).toNat)
        case atStart => exact ⟨0, Nat.zero_le _, rfl, by rw [List.take_zero, List.map_nil, List.append_nil]; exact HO2.out.1, HO2.out.2⟩
        case round =>
          clear HO2
          obtain ⟨k, hk2, rfl, ⟨C, hCl, hO, hC⟩, hB⟩ := hrel
          obtain ⟨av, cv, hv12⟩ := own_slice hO
          subst hv12
          by_cases hlt2 : k < K.length
          · obtain ⟨x, hx⟩ : ∃ x, K[k]? = some x := ⟨_, List.getElem?_eq_getElem hlt2⟩
            obtain ⟨b, off, rfl, hbl, hL⟩ := HCK.out.resolve_left (fun e => by rw [e] at hlt2; simp at hlt2)
            obtain ⟨l0, hRx⟩ := (hL.on hbl hB) k x hx
            have h8 := HRK.out x (List.mem_of_getElem? hx)
            obtain ⟨ra, rn, hrv⟩ : ∃ ra rn, x.rv = .slice ra x.rc.length rn := by obtain ⟨a, c, e, _⟩ := hRx; exact ⟨a, c, e⟩
            have HT : Hid ((H.map fun h : HvS => h.1.r.rc) ++ (K.take (k + 1)).map Rv.rc = ((H.map fun h : HvS => h.1.r.rc) ++ (K.take k).map Rv.rc) ++ [x.rc]) := by show _ = _; rw [take_mapS Rv.rc hx, List.append_assoc]
            have cC := copied_any hRx h8
            rw [hrv] at cC l0
            have HM : Hid (((H.map fun h : HvS => h.1.r.rc) ++ (K.take k).map Rv.rc).length + 1 ≤ maxLen ∧ (((H.map fun h : HvS => h.1.r.rc) ++ (K.take k).map Rv.rc).length + 1) * 24 ≤ 140737488355328) := by
              have : ((H.map fun h : HvS => h.1.r.rc) ++ (K.take k).map Rv.rc).length ≤ 400 := by simp; omega
              unfold maxLen; exact ⟨by omega, by omega⟩
            have HK : Hid (wr.ownsRow W4.heap.size 28 1 (.slice av ((H.map fun h : HvS => h.1.r.rc) ++ (K.take k).map Rv.rc).length cv) ((H.map fun h : HvS => h.1.r.rc) ++ (K.take k).map Rv.rc).length C ∧ C.length = ((H.map fun h : HvS => h.1.r.rc) ++ (K.take k).map Rv.rc).length ∧ (∀ (j : Nat) u rc, C[j]? = some u → ((H.map fun h : HvS => h.1.r.rc) ++ (K.take k).map Rv.rc)[j]? = some rc → wr.ownsRow W4.heap.size 26 4 u rc.length (cellsOf rc)) ∧ Below W4.heap.size W4 wr) := ⟨hO, hCl, hC, hB⟩
            generalize x.rc = RC at cC HT l0
            generalize (H.map fun h : HvS => h.1.r.rc) ++ (K.take k).map Rv.rc = MM at HM HK HT ⊢
            clear hO hC hB hL hRx hCl h8 hrv hx
            go_wp2_with (first | (go_at_call 14; refine cC.mono ?_; rintro e W5 ⟨u5, rfl, hu5, hB5⟩; obtain ⟨ua, uc, rfl⟩ := own_slice hu5; have HU := Lib.hid (And.intro hu5 hB5); have HO1 := Lib.hid ((own_kt HK.out.1 (Kt.of_below HU.out.2)).alloc (.cells #[.slice ua RC.length uc] 28)); have HSZ : Hid (W4.heap.size ≤ (W5.alloc (.cells #[.slice ua RC.length uc] 28)).heap.size) := (by have := HK.out.2.2.2.size; have := HU.out.2.size; show _ ≤ _; simp; omega); clear hu5 hB5) | (at_builtin; refine wpList_append_own _ rfl (.tmp 52) (.tmp 55) 22 rfl W4.heap.size 28 i0 _ 1 24 Try.underlying22 hi0 hz0 hz1 hz2 rfl (by decide) (.slice av MM.length cv) MM.length C rfl HO1.out ⟨W5.heap.size, 0, none⟩ 1 1 [.slice ua RC.length uc] rfl rfl (new_at W5 [.slice ua RC.length uc] 28) (by simp [Value.oneCell']) HM.out.1 HM.out.2 HSZ.out ?_; intro v1 w1 hown hgrow _))
            have R : ∃ k' : Nat, k' ≤ K.length ∧ Value.int .i64 ((k : Int) + 1) = .int .i64 (k' : Int) ∧ OwnRs w1 W4.heap.size v1 ((H.map fun h : HvS => h.1.r.rc) ++ (K.take k').map Rv.rc) ∧ Below W4.heap.size W4 w1 := ⟨k + 1, by omega, by simp, by rw [HT.out]; exact ownRs_step HK.out.2.1 HK.out.1 HK.out.2.2.1 HK.out.2.2.2.size HU.out.2 HU.out.1 _ hown hgrow, below_grown (b_allocR (on1R HK.out.2.2.2 HU.out.2) _) hgrow (b_allocR (on1R HK.out.2.2.2 HU.out.2) _).size (fun j hj => (HK.out.1.lt j hj).1)⟩
            refine ⟨?_, ?_⟩
            · first | exact R | ((repeat apply Exists.intro); refine ⟨?_, rfl⟩; exact R)
            · simp [intOf]; omega
          · obtain rfl : k = K.length := by omega
            have hF : OwnRs wr W4.heap.size (.slice av ((H.map fun h : HvS => h.1.r.rc) ++ (K.take K.length).map Rv.rc).length cv) ((H.map fun h => h.1.r.rc) ++ K.map Rv.rc) := by
              have : OwnRs wr W4.heap.size (.slice av ((H.map fun h : HvS => h.1.r.rc) ++ (K.take K.length).map Rv.rc).length cv) ((H.map fun h => h.1.r.rc) ++ (K.take K.length).map Rv.rc) := ⟨C, hCl, hO, hC⟩
              exact Eq.mp (congrArg (OwnRs wr W4.heap.size _) (show ((H.map fun h : HvS => h.1.r.rc) ++ (K.take K.length).map Rv.rc) = (H.map fun h => h.1.r.rc) ++ K.map Rv.rc by rw [List.take_length])) this
            have HF := Lib.hid (And.intro (hF.base HP.out.2.2.size) (on1R HP.out.2.2 hB))
            clear hO hC hCl hF hB
            generalize Value.slice av ((H.map fun h : HvS => h.1.r.rc) ++ (K.take K.length).map Rv.rc).length cv = vf at HF ⊢
            go_wp2
            go_ret2
            exact ⟨vf, rfl, H, HP.out.1, HP.out.2.1, by rw [un_rc]; exact HF.out.1, HF.out.2⟩
end Go.Proofs.Ytodddcacngjadaa
