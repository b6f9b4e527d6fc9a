/-
  The walk of path.fitting.
-/
import Derived.Test.YtifcpjimhhpcpaaGreatDoorM30
import Derived.Test.YtifcpjimhhpcpaaGreatDoorM28
namespace Go.Proofs.YtifcpjimhhpcpaaGreatDoor
open Go.RowKit
set_option linter.unusedVariables false
set_option linter.unusedSimpArgs false

theorem fitI_yes {L : List Kd} {N : List Nd} {p : Sp} {k : Nat} {n : Nd} (h : N[k]? = some n) (hf : fitB L p n = true) : fitI L (N.take (k + 1)) p = fitI L (N.take k) p ++ [n.id] := by
  unfold fitI; rw [takeK h, List.filter_append, List.map_append]; simp [hf]
theorem fitI_no {L : List Kd} {N : List Nd} {p : Sp} {k : Nat} {n : Nd} (h : N[k]? = some n) (hf : fitB L p n = false) : fitI L (N.take (k + 1)) p = fitI L (N.take k) p := by
  unfold fitI; rw [takeK h, List.filter_append, List.map_append]; simp [hf]
theorem fitI_le (L : List Kd) (N : List Nd) (p : Sp) : (fitI L N p).length ≤ N.length := by unfold fitI; rw [List.length_map]; exact List.length_filter_le _ _
/-- Where the loop of fitting stands. -/
def FtR (L : List Kd) (N : List Nd) (p : Sp) (W : World) (v i : Value) (wr : World) : Prop := ∃ k : Nat, k ≤ N.length ∧ i = .int .i64 k ∧ wr.ownsRow W.heap.size 3 1 v (fitI L (N.take k) p).length (cellsI (fitI L (N.take k) p)) ∧ Below W.heap.size W wr

set_option maxHeartbeats 8000000 in
set_option maxRecDepth 100000 in
theorem fitting_any {vk vn : Value} {L : List Kd} {N : List Nd} (p : Sp) {w : World} (hK : IsK w vk L) (hP : Parts w L) (hz : SzK L) (hm : nmErr L p.kd = 0) (hN : IsN w vn N) (lN : N.length ≤ 60) (zN : SzN N) (hp : IsTs w p.vt p.ts) (l8 : p.ts.length ≤ 8) (zp : SpSz p) :
    Calls Tryz.prog 16 #[vk, vn, p.one] w fun e w' => ∃ v, e = .returned v ∧ w'.ownsRow w.heap.size 3 1 v (fitI L N p).length (cellsI (fitI L N p)) ∧ Below w.heap.size w w' := by
  obtain ⟨i0, hi0, hz0, hz1, hz2⟩ := info_parts infoI
  have HE : Hid (∀ n, fitB L p n = (hasN (under L p.kd) n.kd.toList && p.ts.all (pass n.rc))) := fun n => rfl
  have HU12 : Hid ((under L p.kd).length ≤ 1000) := by
    obtain ⟨_, h12, _⟩ := nmErr_zero hm
    have := unds_len L p.kd (List.range L.length)
    rw [List.length_range] at this
    show (unds L p.kd (List.range L.length)).length ≤ 1000
    omega
  have HT : Hid (IsTs w p.vt p.ts ∧ ∀ x ∈ p.ts, TsSz x) := ⟨hp, zp.2⟩
  obtain ⟨an, cn, rfl, _, hn⟩ := hN
  have HN : Hid (N = [] ∨ ∃ b off, an = some ⟨b, off, none⟩ ∧ b < w.heap.size ∧ LiesN w b off N) := hn
  have HZ : Hid (SzN N) := zN
  obtain ⟨at', ct, hv⟩ := hp.sl
  obtain ⟨W0, hW0⟩ : ∃ W0, W0 = w.alloc (.cells #[.string (bs p.bd), .bool p.back, .string (bs p.kd), .slice at' p.ts.length ct] 46) := ⟨_, rfl⟩
  have hB0 : Below w.heap.size w W0 := by rw [hW0]; exact b_alloc (Below.refl _ _) _
  have n0 : W0.heap[w.heap.size]? = some (.cells #[.string (bs p.bd), .bool p.back, .string (bs p.kd), .slice at' p.ts.length ct] 46 (0, 0)) := by rw [hW0]; exact heap_alloc_new w _
  have hzw : w.heap.size < W0.heap.size := by rw [hW0]; simp
  have k2 : W0.cell? ⟨w.heap.size, 2, none⟩ = some (.string (bs p.kd)) := cell_at n0 rfl
  have HK3 : Hid (∀ W, Below W0.heap.size W0 W → W.cell? ⟨w.heap.size, 3, none⟩ = some (.slice at' p.ts.length ct) ∧ Below w.heap.size w W ∧ w.heap.size < W.heap.size) := fun W hW => ⟨(hW.cell (p := ⟨w.heap.size, 3, none⟩) hzw).trans (cell_at n0 rfl), on1 hB0 hW, Nat.lt_of_lt_of_le hzw hW.size⟩
  have cU := under_any (hK.on hB0) (hP.on hB0) hz p.kd
  unfold UPost at cU
  rw [hm, errV_0] at cU
  obtain ⟨ak, ck, rfl, _⟩ := hK.sln
  rw [hv] at HT
  unfold Sp.one
  rw [hv]
  generalize under L p.kd = U at cU HE HU12
  clear hK hP hz hm hn zN hp zp n0 hzw hB0 hv
  go_enter Tryz.func16, Tryz.ntmps16
  go_upto_region 1 with fail
  rw [← hW0]
  clear hW0
  go_wp2_with (first | (go_at_call 33; refine cU.mono ?_; rintro e W1 ⟨vu, rfl, hu, _, hB1⟩; have HW1 := Lib.hid (And.intro (hu rfl) hB1); clear hu hB1))
  have HS : Hid (IsS W1 vu U) := own_isS HW1.out.1
  clear cU k2
  go_loopw [9, 22] (fun v i wr => FtR L N p W1 v i wr) (fun _ i _ => N.length - (intOf i).toNat)
  case atStart => exact ⟨0, Nat.zero_le _, rfl, World.ownsRow_nil _ _ _ _, Below.refl _ _⟩
  case round =>
    obtain ⟨k, hk, rfl, hO, hB⟩ := hrel
    obtain ⟨j3, hbw, hsw⟩ := HK3.out wr (on1K HW1.out.2 hB (Nat.le_refl _))
    by_cases hlt : k < N.length
    · obtain ⟨n, hn⟩ : ∃ n, N[k]? = some n := ⟨N[k], by simp [hlt]⟩
      rcases HN.out with rfl | ⟨b, off, rfl, hb, hL⟩
      · exact absurd hlt (by simp)
      obtain ⟨e0, e1, e2, hR⟩ := hL k n hn
      have d0 := (hbw.cell (p := ⟨b, off + k * 3, none⟩) hb).trans e0
      have d1 := (hbw.cell (p := ⟨b, off + k * 3 + 1, none⟩) hb).trans e1
      have d2 := (hbw.cell (p := ⟨b, off + k * 3 + 2, none⟩) hb).trans e2
      obtain ⟨av, lv, cv, hrv⟩ := hR.sl
      rw [hrv] at d2 hR
      have hbr : b < wr.heap.size := Nat.lt_of_lt_of_le hb hbw.size
      have hbn : ¬ b = wr.heap.size := by omega
      have hwn : ¬ w.heap.size = wr.heap.size := by omega
      have HX : Hid (N[k]? = some n) := hn
      have hzn := HZ.out n (List.mem_of_getElem? hn)
      obtain ⟨WA, hWA⟩ : ∃ WA, WA = wr.alloc (.cells #[.int .i64 n.id, .string n.kd, .slice av lv cv] 38) := ⟨_, rfl⟩
      have hBA : Below wr.heap.size wr WA := by rw [hWA]; exact b_alloc (Below.refl _ _) _
      have nA : WA.heap[wr.heap.size]? = some (.cells #[.int .i64 n.id, .string n.kd, .slice av lv cv] 38 (0, 0)) := by rw [hWA]; exact heap_alloc_new wr _
      have hsA : wr.heap.size < WA.heap.size := by rw [hWA]; simp
      have f0 : WA.cell? ⟨wr.heap.size, 0, none⟩ = some (.int .i64 n.id) := cell_at nA rfl
      have f1 : WA.cell? ⟨wr.heap.size, 1, none⟩ = some (.string n.kd) := cell_at nA rfl
      have f2 : WA.cell? ⟨wr.heap.size, 2, none⟩ = some (.slice av lv cv) := cell_at nA rfl
      have hB1A : Below W1.heap.size W1 WA := on1K hB hBA (Nat.le_refl _)
      have hbwA : Below w.heap.size w WA := on1K hbw hBA (Nat.le_refl _)
      have j3A := (hBA.cell (p := ⟨w.heap.size, 3, none⟩) hsw).trans j3
      have cC := contains_any (HS.out.on hB1A) HU12.out n.kd.toList
      rw [bs_self] at cC
      have cX := anyX_any wr.heap.size (HT.out.1.on hbwA) l8 HT.out.2 hsA f2 (hR.on hbwA) hzn.2.1 hzn.2.2
      have HOA : Hid (WA.ownsRow W1.heap.size 3 1 u9 (fitI L (N.take k) p).length (cellsI (fitI L (N.take k) p)) ∧ Below W1.heap.size W1 WA) := ⟨own_kt hO (.of_below hBA), hB1A⟩
      clear e0 e1 e2 hR hL hn hO hB hbw hBA nA hbwA hzn hB1A hrv
      by_cases hu : hasN U n.kd.toList = true
      · rw [hu] at cC
        by_cases ha : p.ts.all (pass n.rc) = true
        · have HF : Hid (fitI L (N.take (k + 1)) p = fitI L (N.take k) p ++ [n.id]) := fitI_yes HX.out (by rw [HE.out, hu, ha]; rfl)
          rw [ha] at cX
          clear hu ha
          go_upto_region 6 with fail
          rw [← hWA]
          clear hWA
          go_wp2_with (first | (go_at_call 23; refine cC.mono ?_; rintro e W2 ⟨rfl, hW2⟩; subst hW2) | (go_at_call 35; refine cX.mono ?_; rintro e W3 ⟨rfl, hB3⟩; have g0 := (hB3.cell (p := ⟨wr.heap.size, 0, none⟩) hsA).trans f0; refine Hid.out ?_))
          refine Lib.hid ?_
          have hle := fitI_le L (N.take k) p
          have hkl : (N.take k).length ≤ k := List.length_take_le _ _
          have HH : Hid ((W3.alloc (.cells #[.int .i64 n.id] 3)).ownsRow W1.heap.size 3 1 u9 (fitI L (N.take k) p).length (cellsI (fitI L (N.take k) p)) ∧ Below W1.heap.size W1 (W3.alloc (.cells #[.int .i64 n.id] 3))) := ⟨(own_kt HOA.out.1 (.of_below hB3)).alloc _, b_alloc (on1K HOA.out.2 hB3 (Nat.le_refl _)) _⟩
          have HL2 : Hid ((fitI L (N.take k) p).length + 1 ≤ maxLen ∧ ((fitI L (N.take k) p).length + 1) * 8 ≤ 140737488355328) := by
            unfold maxLen; exact ⟨by omega, by omega⟩
          clear hle hkl hB3 cC cX
          go_wp2_with (at_builtin; refine wpList_append_own _ rfl (.tmp 38) (.tmp 41) 47 rfl W1.heap.size 3 i0 _ 1 8 Tryz.underlying47 hi0 hz0 hz1 hz2 rfl (by decide) u9 (fitI L (N.take k) p).length (cellsI (fitI L (N.take k) p)) rfl HH.out.1 ⟨W3.heap.size, 0, none⟩ 1 1 [.int .i64 n.id] rfl rfl (new_at _ _ _) (by simp [Value.oneCell']) HL2.out.1 HL2.out.2 HH.out.2.size ?_; intro v1 w1 hown1 hgrow1 _; refine Hid.out ?_)
          refine Lib.hid ?_
          have HRR : Hid (FtR L N p W1 v1 (.int .i64 ((k + 1 : Nat) : Int)) w1) := by
            refine ⟨k + 1, hlt, rfl, ?_, HH.out.2.grown hgrow1 HH.out.2.size (fun k hk => (HH.out.1.lt k hk).1)⟩
            rw [HF.out, List.length_append, cellsI_app]
            exact hown1
          clear hown1 hgrow1
          go_wp2
          refine ⟨?_, ?_⟩
          · first | exact HRR.out | ((repeat apply Exists.intro); refine ⟨?_, rfl⟩; exact HRR.out)
          · simp [intOf]
            try omega
        · have ha' : p.ts.all (pass n.rc) = false := by simpa using ha
          have HF : Hid (fitI L (N.take (k + 1)) p = fitI L (N.take k) p) := fitI_no HX.out (by rw [HE.out, hu, ha']; rfl)
          rw [ha'] at cX
          clear hu ha ha'
          go_upto_region 6 with fail
          rw [← hWA]
          clear hWA
          go_wp2_with (first | (go_at_call 23; refine cC.mono ?_; rintro e W2 ⟨rfl, hW2⟩; subst hW2) | (go_at_call 35; refine cX.mono ?_; rintro e W3 ⟨rfl, hB3⟩; have HB3 := Lib.hid hB3; clear hB3))
          have HRR : Hid (FtR L N p W1 u9 (.int .i64 ((k + 1 : Nat) : Int)) W3) := by
            refine ⟨k + 1, hlt, rfl, ?_, on1K HOA.out.2 HB3.out (Nat.le_refl _)⟩
            rw [HF.out]
            exact own_kt HOA.out.1 (.of_below HB3.out)
          refine ⟨?_, ?_⟩
          · first | exact HRR.out | ((repeat apply Exists.intro); refine ⟨?_, rfl⟩; exact HRR.out)
          · simp [intOf]
            try omega
      · have hu' : hasN U n.kd.toList = false := by simpa using hu
        have HF : Hid (fitI L (N.take (k + 1)) p = fitI L (N.take k) p) := fitI_no HX.out (by rw [HE.out, hu']; rfl)
        rw [hu'] at cC
        clear hu hu' cX
        go_upto_region 6 with fail
        rw [← hWA]
        clear hWA
        go_wp2_with (first | (go_at_call 23; refine cC.mono ?_; rintro e W2 ⟨rfl, hW2⟩; subst hW2))
        have HRR : Hid (FtR L N p W1 u9 (.int .i64 ((k + 1 : Nat) : Int)) W2) := ⟨k + 1, hlt, rfl, by rw [HF.out]; exact HOA.out.1, HOA.out.2⟩
        refine ⟨?_, ?_⟩
        · first | exact HRR.out | ((repeat apply Exists.intro); refine ⟨?_, rfl⟩; exact HRR.out)
        · simp [intOf]
          try omega
    · have hke : N.take k = N := List.take_of_length_le (by omega)
      rw [hke] at hO
      have HEnd : Hid (wr.ownsRow w.heap.size 3 1 u9 (fitI L N p).length (cellsI (fitI L N p)) ∧ Below w.heap.size w wr) := ⟨own_base hO (Nat.le_trans (Nat.le_of_lt (HK3.out W1 HW1.out.2).2.2) (Nat.le_refl _)), hbw⟩
      clear hO hB hke hbw
      go_wp2
      go_ret
      exact ⟨_, rfl, HEnd.out.1, HEnd.out.2⟩
end Go.Proofs.YtifcpjimhhpcpaaGreatDoor

/-
  The walk of path.Walk.
-/
namespace Go.Proofs.YtifcpjimhhpcpaaGreatDoor
open Go.RowKit
set_option linter.unusedVariables false
set_option linter.unusedSimpArgs false

/-- Of a path that is right each step is. -/
theorem sps_ok {L : List Kd} {B : List Bd} : ∀ (l : List Sp) (o : Option Sp) (k : Nat), (spsE L B o l k).2 = 0 → ∀ p ∈ l, nmErr L p.kd = 0 ∧ p.ts.length ≤ 8 ∧ tsE (fields L p.kd) p.ts = 0
  | [], _, _, _, p, hp => by cases hp
  | q :: r, o, k, h, p, hp => by
    unfold spsE at h
    by_cases e : spE L B o q = 0
    · rw [if_pos e] at h
      rcases List.mem_cons.1 hp with rfl | hp
      · unfold spE at e
        by_cases e1 : nmErr L p.kd = 0
        · rw [if_pos e1] at e
          by_cases e2 : wayE L B o p = 0
          · rw [if_pos e2] at e
            by_cases e3 : 8 < p.ts.length
            · rw [if_pos e3] at e; cases e
            · rw [if_neg e3] at e; exact ⟨e1, by omega, e⟩
          · rw [if_neg e2] at e; exact absurd e e2
        · rw [if_neg e1] at e; exact absurd e e1
      · exact sps_ok r _ _ h p hp
    · rw [if_neg e] at h; exact absurd h e
theorem pt_ok {L : List Kd} {B : List Bd} {l : List Sp} (h : (ptE L B l).2 = 0) : (sErr L B).2 = 0 ∧ l ≠ [] ∧ l.length ≤ 6 ∧ (spsE L B none l 0).2 = 0 := by
  unfold ptE at h
  by_cases h1 : (sErr L B).2 = 0
  · rw [if_pos h1] at h
    by_cases h2 : l = []
    · rw [if_pos h2] at h; cases h
    · rw [if_neg h2] at h
      by_cases h3 : 6 < l.length
      · rw [if_pos h3] at h; cases h
      · rw [if_neg h3] at h; exact ⟨h1, h2, by omega, h⟩
  · rw [if_neg h1] at h; exact absurd h h1
theorem lngr_rows {T : List Te} {p : Sp} {I : List Int} {R : List (List Int)} {k : Nat} (h : ∀ r ∈ R, r.length = k) : ∀ r ∈ lngr T p I R, r.length = k + 1 := fun r hr => by
  unfold lngr at hr
  obtain ⟨q, hq, hr⟩ := List.mem_flatMap.1 hr
  obtain ⟨i, _, rfl⟩ := List.mem_map.1 hr
  rw [List.length_append, h q hq]; rfl
theorem walkR_next {L : List Kd} {N : List Nd} {T : List Te} {l : List Sp} {k : Nat} {p : Sp} {R : List (List Int)} (hp : l[k]? = some p) (h : ¬ 200 < (lngr T p (fitI L N p) R).length) : walkR L N T (l.drop k) R = walkR L N T (l.drop (k + 1)) (lngr T p (fitI L N p) R) := by
  rw [dropK hp]; conv => lhs; unfold walkR
  rw [if_neg h]
theorem walkR_full {L : List Kd} {N : List Nd} {T : List Te} {l : List Sp} {k : Nat} {p : Sp} {R : List (List Int)} (hp : l[k]? = some p) (h : 200 < (lngr T p (fitI L N p) R).length) : walkR L N T (l.drop k) R = none := by
  rw [dropK hp]; unfold walkR; rw [if_pos h]
/-- Where the loop of Walk stands. -/
def WkR (L : List Kd) (N : List Nd) (T : List Te) (l : List Sp) (W : World) (v i : Value) (wr : World) : Prop :=
  ∃ (k : Nat) (R : List (List Int)), k ≤ l.length ∧ i = .int .i64 k ∧ IsRw wr v R ∧ R.length ≤ 200 ∧ (∀ r ∈ R, r.length = k) ∧ walkR L N T l [[]] = walkR L N T (l.drop k) R ∧ Below W.heap.size W wr
/-- What Walk gives. -/
def WkP (L : List Kd) (B : List Bd) (N : List Nd) (T : List Te) (l : List Sp) (w : World) (e : Ending) (w' : World) : Prop :=
  ∃ v, e = .returned (.tuple #[v, errV (walkE L B N T l)]) ∧ (walkE L B N T l = 0 → ∃ R, walkR L N T l [[]] = some R ∧ IsRw w' v R ∧ R.length ≤ 200 ∧ ∀ r ∈ R, r.length = l.length) ∧ Below w.heap.size w w'

set_option maxHeartbeats 16000000 in
set_option maxRecDepth 100000 in
theorem walk_any {vs vg vl : Value} {L : List Kd} {B : List Bd} {N : List Nd} {T : List Te} {l : List Sp} {w : World} (hs : IsSc w vs L B) (hg : IsG w vg N T) (hl : IsSp w vl l) (hz : ∀ p ∈ l, SpSz p) :
    Calls Tryz.prog 4 #[vs, vg, vl] w (WkP L B N T l w) := by
  have HP : Hid (IsSc w vs L B ∧ IsG w vg N T ∧ IsSp w vl l ∧ ∀ p ∈ l, SpSz p) := ⟨hs, hg, hl, hz⟩
  obtain ⟨vk, vb, rfl, hK, hPt, hzk, hb, hzb⟩ := hs
  obtain ⟨vn, vt, rfl, hN, hT, zN, zT, lN, lT⟩ := hg
  have HS : Hid (IsK w vk L ∧ Parts w L ∧ SzK L ∧ IsN w vn N ∧ IsT w vt T ∧ SzN N) := ⟨hK, hPt, hzk, hN, hT, zN⟩
  obtain ⟨ak, ck, rfl, _⟩ := hK.sln
  obtain ⟨ab, cb, rfl, _⟩ := hb.sln
  obtain ⟨an, cn, rfl, _⟩ := hN
  obtain ⟨am, cm, rfl, _⟩ := hT
  have hl' := hl
  obtain ⟨al, cl, rfl, hlc, hcm, hll⟩ := hl'
  have HLL : Hid (l = [] ∨ ∃ b off, al = some ⟨b, off, none⟩ ∧ b < w.heap.size ∧ LiesSp w b off l) := hll
  obtain ⟨W0, hW0⟩ : ∃ W0, W0 = box2 w #[.slice ak L.length ck, .slice ab B.length cb] 25 #[.slice an N.length cn, .slice am T.length cm] 29 := ⟨_, rfl⟩
  have HB0 : Hid (Below w.heap.size w W0) := by rw [hW0]; exact box2_below _ _ _ _ _
  have x0 : W0.cell? ⟨w.heap.size, 0, none⟩ = some (.slice ak L.length ck) := by rw [hW0]; exact box2_a _ _ _ _ _ rfl
  have x1 : W0.cell? ⟨w.heap.size, 1, none⟩ = some (.slice ab B.length cb) := by rw [hW0]; exact box2_a _ _ _ _ _ rfl
  have x2 : W0.cell? ⟨w.heap.size + 1, 0, none⟩ = some (.slice an N.length cn) := by rw [hW0]; exact box2_b _ _ _ _ _ rfl
  have x3 : W0.cell? ⟨w.heap.size + 1, 1, none⟩ = some (.slice am T.length cm) := by rw [hW0]; exact box2_b _ _ _ _ _ rfl
  have hs0 : W0.heap.size = w.heap.size + 2 := by rw [hW0]; exact box2_size _ _ _ _ _
  have HC : Hid (∀ W, Below W0.heap.size W0 W → Below w.heap.size w W ∧ (W.cell? ⟨w.heap.size, 0, none⟩ = some (.slice ak L.length ck) ∧ W.cell? ⟨w.heap.size, 1, none⟩ = some (.slice ab B.length cb)) ∧ (W.cell? ⟨w.heap.size + 1, 0, none⟩ = some (.slice an N.length cn) ∧ W.cell? ⟨w.heap.size + 1, 1, none⟩ = some (.slice am T.length cm)) ∧ w.heap.size + 1 < W.heap.size) := fun W hB =>
    ⟨on1K HB0.out hB (Nat.le_refl _), ⟨(hB.cell (p := ⟨w.heap.size, 0, none⟩) (by show w.heap.size < _; omega)).trans x0, (hB.cell (p := ⟨w.heap.size, 1, none⟩) (by show w.heap.size < _; omega)).trans x1⟩, ⟨(hB.cell (p := ⟨w.heap.size + 1, 0, none⟩) (by show w.heap.size + 1 < _; omega)).trans x2, (hB.cell (p := ⟨w.heap.size + 1, 1, none⟩) (by show w.heap.size + 1 < _; omega)).trans x3⟩, by have := hB.size; omega⟩
  have c1 := pcheck_any (HP.out.1.on HB0.out) (HP.out.2.2.1.on HB0.out) HP.out.2.2.2
  have HCf : Hid (∀ W, Below w.heap.size w W → Calls Tryz.prog 14 #[.agg #[.slice ak L.length ck, .slice ab B.length cb], .agg #[.slice an N.length cn, .slice am T.length cm]] W fun e w' => e = .returned (.tuple #[.bool (confB L B N T), errV (inE L B N T)]) ∧ Below W.heap.size W w') := fun W hW => conforms_any (HP.out.1.on hW) (HP.out.2.1.on hW)
  clear hK hPt hzk hb hzb zN zT lN lT hl hz hll hs0
  unfold WkP
  by_cases h1 : (ptE L B l).2 = 0
  · obtain ⟨g1, g2, g3, g4⟩ := pt_ok h1
    have HSp := Lib.hid (sps_ok l none 0 g4)
    rw [h1, errV_0] at c1
    by_cases h2 : inE L B N T = 0
    · rw [h2, errV_0] at HCf
      have hge : gErr N T = 0 := by unfold inE at h2; rw [if_pos g1] at h2; exact h2
      by_cases h3 : confB L B N T = true
      · rw [h3] at HCf
        have HE : Hid (walkE L B N T l = match walkR L N T l [[]] with | none => 4 | some _ => 0) := by
          show _ = _
          unfold walkE; rw [if_pos h1, if_pos h2, if_pos h3]; rfl
        obtain ⟨⟨l60, _, _⟩, ⟨l120, srt, _⟩⟩ := (gErr_iff N T).1 hge
        have HG : Hid (SrtT T ∧ T.length ≤ 1000) := ⟨srt, by omega⟩
        obtain ⟨pn, hpn⟩ : ∃ pn, pn = (ptE L B l).1 := ⟨_, rfl⟩
        rw [← hpn] at c1
        clear hpn h1 h2 h3 hge g1 g2 g4 srt l120
        go_enter Tryz.func4, Tryz.ntmps4
        go_upto_region 1 with fail
        unfold box2 at hW0
        rw [← hW0]
        clear hW0
        go_wp2_with (first
          | (go_at_call 13; refine c1.mono ?_; rintro e W1 ⟨rfl, hB1⟩; obtain ⟨hb1, ⟨y0, y1⟩, ⟨y2, y3⟩, _⟩ := HC.out W1 hB1; have cC := HCf.out W1 hb1; have HB1 := Lib.hid hB1; clear hb1 hB1)
          | (go_at_call 14; refine cC.mono ?_; rintro e W2 ⟨rfl, hB2⟩; have HB2 := Lib.hid (on1K HB1.out hB2 (Nat.le_refl _)); clear hB2))
        clear c1 cC x0 x1 x2 x3 y0 y1 y2 y3
        have nR : (W2.alloc (.cells #[.slice none 0 0] 47)).heap[W2.heap.size]? = some (.cells #[.slice none 0 0] 47 (0, 0)) := heap_alloc_new W2 _
        have HR0 : Hid (IsRw (W2.alloc (.cells #[.slice none 0 0] 47)) (.slice (some ⟨W2.heap.size, 0, none⟩) 1 1) [[]]) := by
          refine .inr ⟨W2.heap.size, 1, rfl, by simp, fun k r hr => ?_⟩
          obtain ⟨rfl, rfl⟩ : k = 0 ∧ [] = r := by
            have := (List.getElem?_eq_some_iff.1 hr).1
            have hk : k = 0 := by simp at this; exact this
            subst hk
            exact ⟨rfl, by simpa using hr⟩
          exact ⟨_, cell_at nR rfl, .inl ⟨rfl, rfl⟩⟩
        have HB2' : Hid (Below W0.heap.size W0 (W2.alloc (.cells #[.slice none 0 0] 47))) := on1K HB2.out (b_alloc (Below.refl _ _) _) (Nat.le_refl _)
        clear nR
        go_loopw [12, 39] (fun v i wr => WkR L N T l W0 v i wr) (fun _ i _ => l.length - (intOf i).toNat)
        case atStart => exact ⟨0, [[]], Nat.zero_le _, rfl, HR0.out, by simp, by simp, rfl, HB2'.out⟩
        case round =>
          obtain ⟨k, R, hk, rfl, hR, lR, hRk, hWk, hB⟩ := hrel
          obtain ⟨hbw, ⟨y0, y1⟩, ⟨y2, y3⟩, hzw⟩ := HC.out wr hB
          have hRsl := hR.sl
          obtain ⟨a12, c12, hu12⟩ := hRsl
          by_cases hlt : k < l.length
          · obtain ⟨p, hp⟩ : ∃ p, l[k]? = some p := ⟨l[k], by simp [hlt]⟩
            rcases HLL.out with rfl | ⟨bl, off, rfl, hbl, hLs⟩
            · exact absurd hlt (by simp)
            obtain ⟨⟨e0, e1, e2, e3⟩, hTs⟩ := hLs k p hp
            obtain ⟨at', ct, hv⟩ := hTs.sl
            rw [hv] at e3
            have d0 := (hbw.cell (p := ⟨bl, off + k * 4, none⟩) hbl).trans e0
            have d1 := (hbw.cell (p := ⟨bl, off + k * 4 + 1, none⟩) hbl).trans e1
            have d2 := (hbw.cell (p := ⟨bl, off + k * 4 + 2, none⟩) hbl).trans e2
            have d3 := (hbw.cell (p := ⟨bl, off + k * 4 + 3, none⟩) hbl).trans e3
            obtain ⟨WA, hWA⟩ : ∃ WA, WA = wr.alloc (.cells #[.string (bs p.bd), .bool p.back, .string (bs p.kd), .slice at' p.ts.length ct] 46) := ⟨_, rfl⟩
            have hBA : Below wr.heap.size wr WA := by rw [hWA]; exact b_alloc (Below.refl _ _) _
            have nA : WA.heap[wr.heap.size]? = some (.cells #[.string (bs p.bd), .bool p.back, .string (bs p.kd), .slice at' p.ts.length ct] 46 (0, 0)) := by rw [hWA]; exact heap_alloc_new wr _
            have hsA : wr.heap.size < WA.heap.size := by rw [hWA]; simp
            have hbwA : Below w.heap.size w WA := on1K hbw hBA (Nat.le_refl _)
            have HV : Hid (p.vt = .slice at' p.ts.length ct) := hv
            have HTs : Hid (IsTs w p.vt p.ts) := hTs
            have hpm := List.mem_of_getElem? hp
            obtain ⟨q1, q2, _⟩ := HSp.out p hpm
            have cFt := fitting_any p (HS.out.1.on hbwA) (HS.out.2.1.on hbwA) HS.out.2.2.1 q1 (HS.out.2.2.2.1.on hbwA) l60 HS.out.2.2.2.2.2 (HTs.out.on hbwA) q2 (HP.out.2.2.2 p hpm)
            unfold Sp.one at cFt
            rw [HV.out] at cFt
            have s0 := (hBA.cell (p := ⟨w.heap.size, 0, none⟩) (by show w.heap.size < _; omega)).trans y0
            have s2 := (hBA.cell (p := ⟨w.heap.size + 1, 0, none⟩) hzw).trans y2
            have f0 : WA.cell? ⟨wr.heap.size, 0, none⟩ = some (.string (bs p.bd)) := cell_at nA rfl
            have f1 : WA.cell? ⟨wr.heap.size, 1, none⟩ = some (.bool p.back) := cell_at nA rfl
            have f2 : WA.cell? ⟨wr.heap.size, 2, none⟩ = some (.string (bs p.kd)) := cell_at nA rfl
            have f3 : WA.cell? ⟨wr.heap.size, 3, none⟩ = some (.slice at' p.ts.length ct) := cell_at nA rfl
            have HLd : Hid (∀ W, Below WA.heap.size WA W → ∀ a b, Calls Tryz.prog 17 #[.int .i64 a, .int .i64 b, .pointer (some ⟨w.heap.size + 1, 0, none⟩), .pointer (some ⟨wr.heap.size, 0, none⟩)] W fun e w' => e = .returned (.bool (tiedB T p a b)) ∧ Below W.heap.size W w') := fun W hW a b => by
              have hbW : Below w.heap.size w W := on1K hbwA hW (Nat.le_refl _)
              exact leads_any p ((hW.cell (p := ⟨w.heap.size + 1, 1, none⟩) (Nat.lt_of_lt_of_le hzw hBA.size)).trans ((hBA.cell (p := ⟨w.heap.size + 1, 1, none⟩) hzw).trans y3)) ((hW.cell (p := ⟨wr.heap.size, 0, none⟩) hsA).trans f0) ((hW.cell (p := ⟨wr.heap.size, 1, none⟩) hsA).trans f1) ((hW.cell (p := ⟨wr.heap.size, 2, none⟩) hsA).trans f2) (((hW.cell (p := ⟨wr.heap.size, 3, none⟩) hsA).trans f3).trans (congrArg some HV.out.symm)) (HS.out.2.2.2.2.1.on hbW) HG.out.1 HG.out.2 (HTs.out.on hbW) a b
            have HRl : Hid (∀ W vi, Below WA.heap.size WA W → IsI W vi (fitI L N p) → Calls Tryz.prog 15 #[u12, vi, .func (.func 17) #[] #[.pointer (some ⟨w.heap.size + 1, 0, none⟩), .pointer (some ⟨wr.heap.size, 0, none⟩)]] W fun e w' => ∃ v, e = .returned v ∧ OwnRows w' W.heap.size v (lngr T p (fitI L N p) R) ∧ Below W.heap.size W w') := fun W vi hW hI =>
              longer_any p (w.heap.size + 1) wr.heap.size (hR.on (on1K hBA hW (Nat.le_refl _))) hI lR (Nat.le_trans (fitI_le L N p) l60) (fun r hr => by rw [hRk r hr]; omega) (fun W' a b hW' => HLd.out W' (on1K hW hW' (Nat.le_refl _)) a b)
            have HX : Hid (l[k]? = some p ∧ walkR L N T l [[]] = walkR L N T (l.drop k) R ∧ (∀ r ∈ R, r.length = k)) := ⟨hp, hWk, hRk⟩
            have HBA : Hid (Below W0.heap.size W0 WA ∧ Below w.heap.size w WA) := ⟨on1K hB hBA (Nat.le_refl _), hbwA⟩
            have hbr : bl < wr.heap.size := Nat.lt_of_lt_of_le hbl hbw.size
            have hbn : ¬ bl = wr.heap.size := by omega
            clear e0 e1 e2 e3 hTs hv hp hpm q1 q2 hR hRk hWk hB hbw hBA nA hLs hbwA hu12 HLd
            by_cases h5 : 200 < (lngr T p (fitI L N p) R).length
            · have HN : Hid (walkE L B N T l = 4) := by
                show _ = _
                rw [HE.out, HX.out.2.1, walkR_full HX.out.1 h5]
              have h5i : (200 : Int) < ((lngr T p (fitI L N p) R).length : Int) := by omega
              clear h5
              go_upto_region 13 with fail
              rw [← hWA]
              clear hWA
              go_wp2_with (first
                | (go_at_call 16; refine cFt.mono ?_; rintro e W5 ⟨v5, rfl, ho5, hB5⟩; have cLg := HRl.out W5 v5 hB5 (own_isI ho5); have HB5 := Lib.hid hB5; clear hB5 ho5)
                | (go_at_call 15; refine cLg.mono ?_; rintro e W6 ⟨v6, rfl, ho6, hB6⟩; obtain ⟨a6, c6, hv6⟩ := ho6.isRw.sl; subst hv6; have HB6 := Lib.hid hB6; clear hB6))
              go_ret2
              refine ⟨.slice none 0 0, ret_v (by rw [HN.out]; rfl), fun h => ?_, on1K HBA.out.2 (on1K HB5.out HB6.out (Nat.le_refl _)) (Nat.le_refl _)⟩
              rw [HN.out] at h; cases h
            · have HN : Hid (walkR L N T l [[]] = walkR L N T (l.drop (k + 1)) (lngr T p (fitI L N p) R)) := HX.out.2.1.trans (walkR_next HX.out.1 h5)
              have h5i : ¬ (200 : Int) < ((lngr T p (fitI L N p) R).length : Int) := by omega
              have HL5 : Hid ((lngr T p (fitI L N p) R).length ≤ 200) := by show _ ≤ _; omega
              clear h5
              go_upto_region 13 with fail
              rw [← hWA]
              clear hWA
              go_wp2_with (first
                | (go_at_call 16; refine cFt.mono ?_; rintro e W5 ⟨v5, rfl, ho5, hB5⟩; have cLg := HRl.out W5 v5 hB5 (own_isI ho5); have HB5 := Lib.hid hB5; clear hB5 ho5)
                | (go_at_call 15; refine cLg.mono ?_; rintro e W6 ⟨v6, rfl, ho6, hB6⟩; obtain ⟨a6, c6, hv6⟩ := ho6.isRw.sl; subst hv6; have HB6 := Lib.hid (And.intro ho6.isRw hB6); clear hB6 ho6))
              have HRR : Hid (WkR L N T l W0 (.slice a6 (lngr T p (fitI L N p) R).length c6) (.int .i64 ((k + 1 : Nat) : Int)) W6) := ⟨k + 1, _, hlt, rfl, HB6.out.1, HL5.out, lngr_rows HX.out.2.2, HN.out, on1K HBA.out.1 (on1K HB5.out HB6.out.2 (Nat.le_refl _)) (Nat.le_refl _)⟩
              refine ⟨?_, ?_⟩
              · first | exact HRR.out | ((repeat apply Exists.intro); refine ⟨?_, rfl⟩; exact HRR.out)
              · simp [intOf]
                try omega
          · have hke : k = l.length := by omega
            have hd : l.drop k = [] := List.drop_eq_nil_of_le (by omega)
            rw [hd] at hWk
            have hw2 : walkR L N T l [[]] = some R := hWk
            have HN : Hid (walkE L B N T l = 0) := by show _ = _; rw [HE.out, hw2]
            have HRes : Hid (walkR L N T l [[]] = some R ∧ IsRw wr u12 R ∧ R.length ≤ 200 ∧ ∀ r ∈ R, r.length = l.length) := ⟨hw2, hR, lR, fun r hr => by rw [hRk r hr, hke]⟩
            have HBW := Lib.hid hbw
            clear hR hRk hWk hw2 hd hke hB hbw hu12
            go_wp2
            go_ret2
            exact ⟨_, ret_v (by rw [HN.out]; rfl), fun _ => ⟨R, HRes.out⟩, HBW.out⟩
      · have h3' : confB L B N T = false := by simpa using h3
        rw [h3'] at HCf
        have HE : Hid (walkE L B N T l = 9) := by
          show _ = _
          unfold walkE; rw [if_pos h1, if_pos h2, if_neg h3]
        obtain ⟨pn, hpn⟩ : ∃ pn, pn = (ptE L B l).1 := ⟨_, rfl⟩
        rw [← hpn] at c1
        clear hpn h1 h2 h3 h3' hge g1 g2 g3 g4
        go_enter Tryz.func4, Tryz.ntmps4
        go_upto_region 1 with fail
        unfold box2 at hW0
        rw [← hW0]
        clear hW0
        go_wp2_with (first
          | (go_at_call 13; refine c1.mono ?_; rintro e W1 ⟨rfl, hB1⟩; obtain ⟨hb1, ⟨y0, y1⟩, ⟨y2, y3⟩, _⟩ := HC.out W1 hB1; have cC := HCf.out W1 hb1; have HB1 := Lib.hid hb1; clear hb1 hB1)
          | (go_at_call 14; refine cC.mono ?_; rintro e W2 ⟨rfl, hB2⟩; have HB2 := Lib.hid (on1K HB1.out hB2 (Nat.le_refl _)); clear hB2))
        go_ret2
        refine ⟨.slice none 0 0, ret_v (by rw [HE.out]; rfl), fun h => ?_, HB2.out⟩
        rw [HE.out] at h; cases h
    · have HE : Hid (walkE L B N T l = inE L B N T ∧ ¬ inE L B N T = 0) := by
        refine ⟨?_, h2⟩
        unfold walkE; rw [if_pos h1, if_neg h2]
      rw [errV_ne h2] at HCf
      obtain ⟨pn, hpn⟩ : ∃ pn, pn = (ptE L B l).1 := ⟨_, rfl⟩
      rw [← hpn] at c1
      clear hpn h1 h2 g1 g2 g3 g4
      go_enter Tryz.func4, Tryz.ntmps4
      go_upto_region 1 with fail
      unfold box2 at hW0
      rw [← hW0]
      clear hW0
      go_wp2_with (first
        | (go_at_call 13; refine c1.mono ?_; rintro e W1 ⟨rfl, hB1⟩; obtain ⟨hb1, ⟨y0, y1⟩, ⟨y2, y3⟩, _⟩ := HC.out W1 hB1; have cC := HCf.out W1 hb1; have HB1 := Lib.hid hb1; clear hb1 hB1)
        | (go_at_call 14; refine cC.mono ?_; rintro e W2 ⟨rfl, hB2⟩; have HB2 := Lib.hid (on1K HB1.out hB2 (Nat.le_refl _)); clear hB2))
      go_ret2
      refine ⟨.slice none 0 0, ret_v (by rw [HE.out.1, errV_ne HE.out.2]; rfl), fun h => ?_, HB2.out⟩
      rw [HE.out.1] at h; exact absurd h HE.out.2
  · have HE : Hid (walkE L B N T l = (ptE L B l).2 ∧ ¬ (ptE L B l).2 = 0) := by
      refine ⟨?_, h1⟩
      unfold walkE; rw [if_neg h1]
    rw [errV_ne h1] at c1
    obtain ⟨pn, hpn⟩ : ∃ pn, pn = (ptE L B l).1 := ⟨_, rfl⟩
    rw [← hpn] at c1
    clear hpn h1
    go_enter Tryz.func4, Tryz.ntmps4
    go_upto_region 1 with fail
    unfold box2 at hW0
    rw [← hW0]
    clear hW0
    go_wp2_with (first
      | (go_at_call 13; refine c1.mono ?_; rintro e W1 ⟨rfl, hB1⟩; obtain ⟨hb1, _⟩ := HC.out W1 hB1; have HB1 := Lib.hid hb1; clear hb1 hB1))
    go_ret2
    refine ⟨.slice none 0 0, ret_v (by rw [HE.out.1, errV_ne HE.out.2]; rfl), fun h => ?_, HB1.out⟩
    rw [HE.out.1] at h; exact absurd h HE.out.2
end Go.Proofs.YtifcpjimhhpcpaaGreatDoor
