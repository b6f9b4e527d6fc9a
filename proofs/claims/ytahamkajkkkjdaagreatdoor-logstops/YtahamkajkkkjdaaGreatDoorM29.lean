import Derived.Test.YtahamkajkkkjdaaGreatDoorM28
import Derived.Test.YtahamkajkkkjdaaGreatDoorM27
import Derived.Test.YtahamkajkkkjdaaGreatDoorM26
import Derived.Test.YtahamkajkkkjdaaGreatDoorM24
import Derived.Test.YtahamkajkkkjdaaGreatDoorM22
namespace Go.Proofs.YtahamkajkkkjdaaGreatDoor
open Go.RowKit
set_option linter.unusedVariables false
set_option linter.unusedSimpArgs false
def newE (n : Nd) (M : List Nd) : Int := if gErr [n] [] = 0 then (if fndN n.id M = true then 7 else if M.length = 60 then 4 else 0) else gErr [n] []
def newM (n : Nd) (M : List Nd) : List Nd := M.take (loN n.id M) ++ n.c :: M.drop (loN n.id M)
abbrev anW (w : World) (n : Nd) : World := (w.alloc (.cells #[.int .i64 n.id, .string n.kd, n.rv] 40)).alloc (.cells #[.int .i64 n.id, .string n.kd, n.rv] 40)
theorem anW_1 (w : World) (n : Nd) : (anW w n).heap[w.heap.size + 1]? = some (.cells #[.int .i64 n.id, .string n.kd, n.rv] 40 (0, 0)) := by
  have := heap_alloc_new (w.alloc (.cells #[.int .i64 n.id, .string n.kd, n.rv] 40)) (.cells #[.int .i64 n.id, .string n.kd, n.rv] 40)
  rwa [World.size_alloc] at this
theorem anW_isN {w : World} {n : Nd} (hR : IsR w n.rv n.rc) : IsN (anW w n) (.slice (some ⟨w.heap.size + 1, 0, none⟩) 1 1) [n] := by
  refine ⟨_, 1, rfl, Nat.le_refl _, .inr ⟨w.heap.size + 1, 0, rfl, by simp [anW], fun k x hx => ?_⟩⟩
  obtain ⟨rfl, rfl⟩ : k = 0 ∧ n = x := by
    have := (List.getElem?_eq_some_iff.1 hx).1
    have hk : k = 0 := by simp at this; exact this
    subst hk
    exact ⟨rfl, by simpa using hx⟩
  exact ⟨cell_at (anW_1 w n) rfl, cell_at (anW_1 w n) rfl, cell_at (anW_1 w n) rfl, hR.on (b_alloc (b_alloc (Below.refl _ _) _) _)⟩
theorem isT_nil (w : World) : IsT w (.slice none 0 0) [] := ⟨none, 0, rfl, Nat.le_refl _, .inl rfl⟩
theorem new_own {W3 W4 : World} {base B : Nat} {vn v4 v' : Value} {N : List Nd} {n f : Nd} {lo : Nat} (hN : OwnNs W3 base vn N) (hr : OwnRc W3 B v' n.rc) (hB : base ≤ B) (hfv : f.rv = v') (hfr : f.rc = n.rc) (h4 : W4.ownsRow base 40 3 v4 (N.take lo ++ f :: N.drop lo).length (cellsN (N.take lo ++ f :: N.drop lo))) (hk : Kt 44 W3 W4) : OwnNs W4 base v4 (N.take lo ++ f :: N.drop lo) := by
  refine ⟨h4, fun x hx => ?_⟩
  rcases List.mem_append.1 hx with h | h
  · exact (hN.2 x (List.mem_of_mem_take h)).kt hk
  · rcases List.mem_cons.1 h with rfl | h
    · rw [hfv, hfr]
      exact OwnRc.kt (own_base hr hB) hk
    · exact (hN.2 x (List.mem_of_mem_drop h)).kt hk
set_option maxHeartbeats 4000000 in
set_option maxRecDepth 100000 in
theorem addNode_any {w : World} {base p : Nat} {N : List Nd} {T : List Te} (h : OG w base p N T) (hbw : base ≤ w.heap.size) (hs : SrtN N) (h60 : N.length ≤ 60) (n : Nd) (hR : IsR w n.rv n.rc) (zn : n.kd.size ≤ maxLen ∧ Sz n.rc ∧ n.rc.length ≤ maxLen) :
    Calls Tryz.prog 110 #[.pointer (some ⟨p, 0, none⟩), n.one] w fun e w' => e = .returned (errV (newE n N)) ∧ (newE n N = 0 → ∃ N', cN N' = newM n (cN N) ∧ OG w' base p N' T) ∧ Below base w w' := by
  obtain ⟨vn, vt, hbp, hpb, hN, hT⟩ := h
  have D : OGv w base p vn vt N T := ⟨hbp, hpb, hN, hT⟩
  have cG := gcheck_any (anW_isN hR) (isT_nil (anW w n)) (fun x hx => by simp at hx; subst hx; exact zn) (fun x hx => by cases hx) (by show 1 ≤ maxLen; decide) (by show 0 ≤ maxLen; decide)
  obtain ⟨W0, hW0⟩ : ∃ W0, W0 = w.alloc (.cells #[.int .i64 n.id, .string n.kd, n.rv] 40) := ⟨_, rfl⟩
  have hB0 : Below w.heap.size w W0 := by rw [hW0]; exact b_alloc (Below.refl _ _) _
  have hi0 : W0.heap[w.heap.size]? = some (.cells #[.int .i64 n.id, .string n.kd, n.rv] 40 (0, 0)) := by rw [hW0]; exact heap_alloc_new w _
  have D0 := D.on hB0
  have hpl := D.pl
  obtain ⟨an, cn, hvn⟩ := own_slice hN.1
  obtain ⟨am, cm, hvt⟩ := own_slice hT
  subst hvn hvt
  have hs0 : W0.heap.size = w.heap.size + 1 := by rw [hW0]; simp
  unfold anW at cG
  rw [← hW0] at cG
  have x1 : W0.cell? ⟨w.heap.size, 0, none⟩ = some (.int .i64 n.id) := cell_at hi0 rfl
  have x2 : W0.cell? ⟨w.heap.size, 1, none⟩ = some (.string n.kd) := cell_at hi0 rfl
  have x3 : W0.cell? ⟨w.heap.size, 2, none⟩ = some n.rv := cell_at hi0 rfl
  have HX : Hid (∀ W, Below W0.heap.size W0 W → OGv W base p (.slice an N.length cn) (.slice am T.length cm) N T ∧ W.heap[w.heap.size]? = some (.cells #[.int .i64 n.id, .string n.kd, n.rv] 40 (0, 0)) ∧ Below w.heap.size w W ∧ IsR W n.rv n.rc) := fun W hB => ⟨D0.on hB, (hB.block _ (by omega)).trans hi0, on1K hB0 hB (Nat.le_refl _), hR.on (on1K hB0 hB (Nat.le_refl _))⟩
  have HT : Hid (SrtN N ∧ ∀ W, IsN W (.slice an N.length cn) N → Calls Tryz.prog 143 #[.slice an N.length cn, .int .i64 n.id] W fun e w' => e = .returned (.tuple #[.int .i64 (loN n.id N), .bool (fndN n.id N)]) ∧ Below W.heap.size W w') := ⟨hs, fun W hW => findNode_any hW hs (by omega) n.id⟩
  have hBX : Below W0.heap.size W0 (W0.alloc (.cells #[.int .i64 n.id, .string n.kd, n.rv] 40)) := b_alloc (Below.refl _ _) _
  have HBX := Lib.hid hBX
  have HSL : Hid (SlN N) := hN.sl
  obtain ⟨av, lv, cv, hv⟩ := hR.sl
  clear hpb hN hT hB0 hi0 D D0 hs hBX
  have cF := fun W hW => HT.out.2 W hW
  have hlo := loN_le n.id N
  by_cases hz : gErr [n] [] = 0
  · have hr8 : n.rc.length ≤ 1000 := by have := gErr_rc8 hz n (by simp); omega
    rw [hz, show errV 0 = .nilIface from rfl] at cG
    cases hfd : fndN n.id N with
    | true =>
      have hE : newE n N = 7 := by unfold newE; rw [if_pos hz, if_pos hfd]
      rw [hE, show errV 7 = .iface 76 (.int .i64 7) from rfl]
      rw [hfd] at cF
      clear hz hE hfd
      have HL : Hid (newM n (cN N) = (cN N).take (loN n.id N) ++ n.c :: (cN N).drop (loN n.id N)) := by unfold newM; rw [loN_c]; rfl
      obtain ⟨lo, hlo'⟩ : ∃ lo, lo = loN n.id N := ⟨_, rfl⟩
      rw [← hlo'] at cF hlo HL
      obtain ⟨id, kd, rv, rc⟩ := n
      simp only at x1 x2 x3 HX cG HBX hv HL cF zn
      subst hv
      have hrl : rc.length ≤ maxLen := zn.2.2
      clear hlo' zn HT hR
      go_enter Tryz.func110, Tryz.ntmps110
      go_upto_region 1 with fail
      rw [← hW0]
      clear hW0
      go_wp2_with (first | (go_at_call 75; refine cG.mono ?_; rintro e W1 ⟨rfl, hB1'⟩; refine Hid.out ?_))
      refine Lib.hid ?_
      have hB1 : Below W0.heap.size W0 W1 := on1K HBX.out hB1' (Nat.le_refl _)
      obtain ⟨D1, q1, b1, r1⟩ := HX.out W1 hB1
      have y0 : W1.cell? ⟨p, 0, none⟩ = some (.slice an N.length cn) := cell_at D1.hp rfl
      have y1 : W1.cell? ⟨w.heap.size, 0, none⟩ = some (.int .i64 id) := cell_at q1 rfl
      have cF1 := cF W1.drew D1.hN.isN
      have HB1 := Lib.hid hB1
      have HY : Hid (∀ W, Below W1.heap.size W1 W → W.cell? ⟨p, 0, none⟩ = some (.slice an N.length cn) ∧ W.cell? ⟨w.heap.size, 0, none⟩ = some (.int .i64 id) ∧ W.cell? ⟨w.heap.size, 1, none⟩ = some (.string kd) ∧ W.cell? ⟨w.heap.size, 2, none⟩ = some (.slice av lv cv)) := fun W hB => by
        obtain ⟨D2, q2, _⟩ := HX.out W (on1K HB1.out hB (Nat.le_refl _))
        exact ⟨cell_at D2.hp rfl, cell_at q2 rfl, cell_at q2 rfl, cell_at q2 rfl⟩
      clear hB1 hB1' q1 b1 r1 cG x1 x2 x3 HBX D1
      go_wp2
      first | (go_region_held (fun w' => w'.cell? ⟨p, 0, none⟩ = some (.slice an N.length cn) ∧ w'.cell? ⟨w.heap.size, 0, none⟩ = some (.int .i64 id)) (go_keep) (first | (go_at_call 143; refine cF1.mono ?_; rintro e W2 ⟨rfl, hB2'⟩; have hB2 := b_undrew hB2'; clear hB2'; obtain ⟨z0, z1, z2, z3⟩ := HY.out W2 hB2))) | fail
      all_goals
        go_wp2
        go_ret
        exact ⟨rfl, fun h => (by cases h), (HX.out W2 (on1K HB1.out hB2 (Nat.le_refl _))).2.2.1.mono hbw⟩
    | false =>
      rw [hfd] at cF
      by_cases hfull : N.length = 60
      · have hE : newE n N = 4 := by unfold newE; rw [if_pos hz, hfd, if_neg (by decide), if_pos hfull]
        rw [hE, show errV 4 = .iface 76 (.int .i64 4) from rfl]
        have hfb : ((N.length : Int) == 60) = true := by rw [hfull]; rfl
        clear hz hE hfd hfull
        have HL : Hid (newM n (cN N) = (cN N).take (loN n.id N) ++ n.c :: (cN N).drop (loN n.id N)) := by unfold newM; rw [loN_c]; rfl
        obtain ⟨lo, hlo'⟩ : ∃ lo, lo = loN n.id N := ⟨_, rfl⟩
        rw [← hlo'] at cF hlo HL
        obtain ⟨id, kd, rv, rc⟩ := n
        simp only at x1 x2 x3 HX cG HBX hv HL cF zn
        subst hv
        have hrl : rc.length ≤ maxLen := zn.2.2
        clear hlo' zn HT hR
        go_enter Tryz.func110, Tryz.ntmps110
        go_upto_region 1 with fail
        rw [← hW0]
        clear hW0
        go_wp2_with (first | (go_at_call 75; refine cG.mono ?_; rintro e W1 ⟨rfl, hB1'⟩; refine Hid.out ?_))
        refine Lib.hid ?_
        have hB1 : Below W0.heap.size W0 W1 := on1K HBX.out hB1' (Nat.le_refl _)
        obtain ⟨D1, q1, b1, r1⟩ := HX.out W1 hB1
        have y0 : W1.cell? ⟨p, 0, none⟩ = some (.slice an N.length cn) := cell_at D1.hp rfl
        have y1 : W1.cell? ⟨w.heap.size, 0, none⟩ = some (.int .i64 id) := cell_at q1 rfl
        have cF1 := cF W1.drew D1.hN.isN
        have HB1 := Lib.hid hB1
        have HY : Hid (∀ W, Below W1.heap.size W1 W → W.cell? ⟨p, 0, none⟩ = some (.slice an N.length cn) ∧ W.cell? ⟨w.heap.size, 0, none⟩ = some (.int .i64 id) ∧ W.cell? ⟨w.heap.size, 1, none⟩ = some (.string kd) ∧ W.cell? ⟨w.heap.size, 2, none⟩ = some (.slice av lv cv)) := fun W hB => by
          obtain ⟨D2, q2, _⟩ := HX.out W (on1K HB1.out hB (Nat.le_refl _))
          exact ⟨cell_at D2.hp rfl, cell_at q2 rfl, cell_at q2 rfl, cell_at q2 rfl⟩
        clear hB1 hB1' q1 b1 r1 cG x1 x2 x3 HBX D1
        go_wp2
        first | (go_region_held (fun w' => w'.cell? ⟨p, 0, none⟩ = some (.slice an N.length cn) ∧ w'.cell? ⟨w.heap.size, 0, none⟩ = some (.int .i64 id)) (go_keep) (first | (go_at_call 143; refine cF1.mono ?_; rintro e W2 ⟨rfl, hB2'⟩; have hB2 := b_undrew hB2'; clear hB2'; obtain ⟨z0, z1, z2, z3⟩ := HY.out W2 hB2))) | fail
        all_goals
          go_wp2
          go_ret
          exact ⟨rfl, fun h => (by cases h), (HX.out W2 (on1K HB1.out hB2 (Nat.le_refl _))).2.2.1.mono hbw⟩
      · have hE : newE n N = 0 := by unfold newE; rw [if_pos hz, hfd, if_neg (by decide), if_neg hfull]
        rw [hE, show errV 0 = .nilIface from rfl]
        clear hz hE hfd
        have hfi : ¬ ((N.length : Int) = 60) := by omega
        have HL : Hid (newM n (cN N) = (cN N).take (loN n.id N) ++ n.c :: (cN N).drop (loN n.id N)) := by unfold newM; rw [loN_c]; rfl
        obtain ⟨lo, hlo'⟩ : ∃ lo, lo = loN n.id N := ⟨_, rfl⟩
        rw [← hlo'] at cF hlo HL
        obtain ⟨id, kd, rv, rc⟩ := n
        simp only at x1 x2 x3 HX cG HBX hv HL cF zn hr8
        subst hv
        have hrl : rc.length ≤ maxLen := zn.2.2
        clear hlo' zn HT hR
        go_enter Tryz.func110, Tryz.ntmps110
        go_upto_region 1 with fail
        rw [← hW0]
        clear hW0
        go_wp2_with (first | (go_at_call 75; refine cG.mono ?_; rintro e W1 ⟨rfl, hB1'⟩; refine Hid.out ?_))
        refine Lib.hid ?_
        have hB1 : Below W0.heap.size W0 W1 := on1K HBX.out hB1' (Nat.le_refl _)
        obtain ⟨D1, q1, b1, r1⟩ := HX.out W1 hB1
        have y0 : W1.cell? ⟨p, 0, none⟩ = some (.slice an N.length cn) := cell_at D1.hp rfl
        have y1 : W1.cell? ⟨w.heap.size, 0, none⟩ = some (.int .i64 id) := cell_at q1 rfl
        have cF1 := cF W1.drew D1.hN.isN
        have HB1 := Lib.hid hB1
        have HY : Hid (∀ W, Below W1.heap.size W1 W → W.cell? ⟨p, 0, none⟩ = some (.slice an N.length cn) ∧ W.cell? ⟨w.heap.size, 0, none⟩ = some (.int .i64 id) ∧ W.cell? ⟨w.heap.size, 1, none⟩ = some (.string kd) ∧ W.cell? ⟨w.heap.size, 2, none⟩ = some (.slice av lv cv)) := fun W hB => by
          obtain ⟨D2, q2, _⟩ := HX.out W (on1K HB1.out hB (Nat.le_refl _))
          exact ⟨cell_at D2.hp rfl, cell_at q2 rfl, cell_at q2 rfl, cell_at q2 rfl⟩
        clear hB1 hB1' q1 b1 r1 cG x1 x2 x3 HBX D1
        go_wp2
        first | (go_region_held (fun w' => w'.cell? ⟨p, 0, none⟩ = some (.slice an N.length cn) ∧ w'.cell? ⟨w.heap.size, 0, none⟩ = some (.int .i64 id)) (go_keep) (first | (go_at_call 143; refine cF1.mono ?_; rintro e W2 ⟨rfl, hB2'⟩; have hB2 := b_undrew hB2'; clear hB2'; obtain ⟨z0, z1, z2, z3⟩ := HY.out W2 hB2))) | fail
        all_goals
          obtain ⟨D2, q2, b2, r2⟩ := HX.out W2 (on1K HB1.out hB2 (Nat.le_refl _))
          have cc := copiedNode_any ⟨id, kd, .slice av lv cv, rc⟩ W2.drew r2 hr8
          have hp2 : p < W2.heap.size := D2.pl
          have HC : Hid (∀ W3 v', OwnRc W3 W2.heap.size v' rc → Below W2.heap.size W2 W3 → (∃ a l c, v' = .slice a l c) → Calls Tryz.prog 144 #[.slice an N.length cn, .int .i64 lo, .slice (some ⟨W3.heap.size, 0, none⟩) 1 1] (W3.alloc (.cells #[.int .i64 id, .string kd, v'] 40)) fun e w' => ∃ v4, e = .returned v4 ∧ OwnNs w' base v4 (N.take lo ++ ⟨id, kd, v', rc⟩ :: N.drop lo) ∧ (W3.alloc (.cells #[.int .i64 id, .string kd, v'] 40)).grownBy w' (Value.slice an N.length cn).ownBlock ∧ OGv (W3.alloc (.cells #[.int .i64 id, .string kd, v'] 40)) base p (.slice an N.length cn) (.slice am T.length cm) N T ∧ Below w.heap.size w (W3.alloc (.cells #[.int .i64 id, .string kd, v'] 40))) := fun W3 v' hr3 hB3 hsl3 => by
            have hX3 : Below W3.heap.size W3 (W3.alloc (.cells #[.int .i64 id, .string kd, v'] 40)) := b_alloc (Below.refl _ _) _
            have D3 := (D2.on hB3).on hX3
            have b3 : Below w.heap.size w (W3.alloc (.cells #[.int .i64 id, .string kd, v'] 40)) := on1K (on1K b2 hB3 (Nat.le_refl _)) hX3 (Nat.le_refl _)
            refine (insertN_any D3.hN.1 lo hlo W3.heap.size ⟨id, kd, v', rc⟩ hsl3 HSL.out (heap_alloc_new W3 _) (fun e => by have := (World.ownsRow.lt (D2.on hB3).hN.1 _ e).2; exact absurd this (Nat.lt_irrefl _)) (Nat.le_trans hbw b3.size) (by omega)).mono ?_
            rintro e w' ⟨v4, rfl, h4, h5⟩
            exact ⟨v4, rfl, new_own (n := ⟨id, kd, v', rc⟩) D3.hN (OwnRc.kt hr3 (.of_below hX3)) (Nat.le_trans hbw b2.size) rfl rfl h4 (Kt.of_own D3.hN.1 (by decide) h5), h5, D3, b3⟩
          have HZ : Hid (∀ W, Below W2.heap.size W2 W → W.cell? ⟨p, 0, none⟩ = some (.slice an N.length cn) ∧ W.cell? ⟨w.heap.size, 0, none⟩ = some (.int .i64 id) ∧ W.cell? ⟨w.heap.size, 1, none⟩ = some (.string kd) ∧ W.cell? ⟨w.heap.size, 2, none⟩ = some (.slice av lv cv)) := fun W hB => HY.out W (on1K hB2 hB (Nat.le_refl _))
          clear D2 q2 b2 r2 HX HY cF cF1 hB2
          go_wp2
          first | (go_region_law (first | (go_simp; go_at_call 109; refine cc.mono ?_; rintro e W3 ⟨v3, rfl, hr3, hB3'⟩; have hB3 := b_undrew hB3'; clear hB3'; obtain ⟨a3, l3, c3, hv3⟩ := hr3.sl; subst hv3; have cI := HC.out W3 _ hr3 hB3 ⟨a3, l3, c3, rfl⟩; obtain ⟨s0, s1, s2, s3⟩ := HZ.out W3 hB3; have w0 := cell_old s0; clear hr3 hB3) | (go_simp; go_at_call 144; refine cI.mono ?_; rintro e W4 ⟨v4, rfl, ho4, hg4, D4, b4⟩; obtain ⟨a4, c4, hv4⟩ := own_slice ho4.1; subst hv4; have hp4 := D4.pN hg4; have t0 : W4.cell? ⟨p, 0, none⟩ = some (.slice an N.length cn) := cell_at hp4 rfl; have g0 : W4.frozen? ⟨p, 0, none⟩ = false := frz_at hp4; have HO := Lib.hid (And.intro ho4 (And.intro hg4 (And.intro D4 b4))); clear ho4 hg4 hp4 D4 b4))) | fail
          all_goals
            go_wp2
            go_ret
            obtain ⟨o1, o2, o3, o4⟩ := HO.out
            refine ⟨rfl, fun _ => ⟨N.take lo ++ ⟨id, kd, .slice a3 l3 c3, rc⟩ :: N.drop lo, ?_, ?_⟩, (below_row (o4.mono hbw) o3.hN.1 o2 (Nat.le_refl _) (Nat.le_trans hbw o4.size)).setCell hbp _⟩
            · rw [HL.out]
              unfold cN
              rw [List.map_append, List.map_cons, List.map_take, List.map_drop]
              rfl
            · have e : (N.take lo ++ (⟨id, kd, .slice a3 l3 c3, rc⟩ : Nd) :: N.drop lo).length = lo + (N.length - lo + 1) := by simp; omega
              have hh := (OGv.nodes o3 o2 o1).og
              rw [e] at hh
              exact hh
  · have hE : newE n N = gErr [n] [] := by unfold newE; rw [if_neg hz]
    rw [hE]
    rw [errV_ne hz] at cG ⊢
    obtain ⟨z, hzz⟩ : ∃ z, z = gErr [n] [] := ⟨_, rfl⟩
    rw [← hzz] at cG hz ⊢
    clear hE hzz cF zn hR
    obtain ⟨id, kd, rv, rc⟩ := n
    simp only at x1 x2 x3 HX cG HBX hv
    subst hv
    have HZ := Lib.hid hz
    clear hz HT
    go_enter Tryz.func110, Tryz.ntmps110
    go_upto_region 1 with fail
    rw [← hW0]
    clear hW0
    go_wp2_with (first | (go_at_call 75; refine cG.mono ?_; rintro e W1 ⟨rfl, hB1⟩))
    go_ret
    exact ⟨rfl, fun h => absurd h HZ.out, (HX.out W1 (on1K HBX.out hB1 (Nat.le_refl _))).2.2.1.mono hbw⟩
def Pr.ok (p : Pr) : Prop := nErr p.l = 0 ∧ p.bad = 0
theorem chk_ok (L : List Pr) : ∀ o, chk o L = 0 → ∀ p ∈ L, p.ok := by
  induction L with
  | nil => intro o _ p hp; simp at hp
  | cons a r ih =>
    intro o h p hp
    have h1 : nErr a.l = 0 := by
      by_cases h1 : nErr a.l = 0
      · exact h1
      · rw [chk_name h1] at h; exact absurd h h1
    have h2 : a.bad = 0 := by
      by_cases h2 : a.bad = 0
      · exact h2
      · rw [chk_bad h1 h2] at h; exact absurd h h2
    rcases List.mem_cons.1 hp with rfl | hp
    · exact ⟨h1, h2⟩
    · cases o with
      | none => rw [chk_first h1 h2] at h; exact ih _ h p hp
      | some q =>
        by_cases h3 : a.low q = true
        · rw [chk_low h1 h2 h3] at h; exact absurd h (by decide)
        · rw [chk_up h1 h2 (by simpa using h3)] at h; exact ih _ h p hp
theorem lt_iff (p q : Pr) : p.lt q = true ↔ Lib.compareBytes p.nm.toList q.nm.toList < 0 := by
  unfold Pr.lt; rw [less_cmp]; simp
theorem lt_trans {p q r : Pr} (h1 : p.lt q = true) (h2 : q.lt r = true) : p.lt r = true := by
  rw [lt_iff] at *
  have h3 := cmpB_trans p.nm.toList q.nm.toList r.nm.toList (by omega) (by omega)
  rcases Int.lt_or_eq_of_le h3 with h | h
  · exact h
  · have e := (cmpB_zero _ _).1 h
    rw [e] at h1
    have := cmpB_anti q.nm.toList r.nm.toList
    omega
theorem low_lt {p q : Pr} : p.low q = false ↔ q.lt p = true := by
  unfold Pr.low
  rw [lt_iff, less_cmp]
  have ha := cmpB_anti p.nm.toList q.nm.toList
  have hz := cmpB_zero p.nm.toList q.nm.toList
  have hr := cmpB_range p.nm.toList q.nm.toList
  constructor
  · intro h
    rw [Bool.or_eq_false_iff] at h
    have h1 : ¬ Lib.compareBytes p.nm.toList q.nm.toList < 0 := by simpa using h.1
    have h2 : ¬ p.nm.toList = q.nm.toList := by simpa using h.2
    have h3 : ¬ Lib.compareBytes p.nm.toList q.nm.toList = 0 := fun e => h2 (hz.1 e)
    omega
  · intro h
    rw [Bool.or_eq_false_iff]
    refine ⟨by simp; omega, ?_⟩
    have : ¬ p.nm.toList = q.nm.toList := fun e => by have := hz.2 e; omega
    simpa using this
def SrtP (L : List Pr) : Prop := (∀ p ∈ L, p.ok) ∧ L.Pairwise fun a b => a.lt b = true
theorem chk_srt (L : List Pr) : ∀ q : Pr, chk (some q) L = 0 ↔ SrtP L ∧ ∀ p ∈ L, q.lt p = true := by
  induction L with
  | nil => intro q; exact ⟨fun _ => ⟨⟨fun p hp => by simp at hp, List.Pairwise.nil⟩, fun p hp => by simp at hp⟩, fun _ => rfl⟩
  | cons a r ih =>
    intro q
    constructor
    · intro h
      have hok := chk_ok (a :: r) _ h
      have ha := hok a (by simp)
      have h3 : a.low q = false := by
        cases h4 : a.low q
        · rfl
        · rw [chk_low ha.1 ha.2 h4] at h; exact absurd h (by decide)
      rw [chk_up ha.1 ha.2 h3] at h
      obtain ⟨hs, hl⟩ := (ih a).1 h
      have hqa := low_lt.1 h3
      refine ⟨⟨hok, List.pairwise_cons.2 ⟨hl, hs.2⟩⟩, fun p hp => ?_⟩
      rcases List.mem_cons.1 hp with rfl | hp
      · exact hqa
      · exact lt_trans hqa (hl p hp)
    · rintro ⟨⟨hok, hp⟩, hl⟩
      have ha := hok a (by simp)
      rw [chk_up ha.1 ha.2 (low_lt.2 (hl a (by simp)))]
      obtain ⟨h1, h2⟩ := List.pairwise_cons.1 hp
      exact (ih a).2 ⟨⟨fun p hp => hok p (by simp [hp]), h2⟩, h1⟩
theorem rErr_srt (L : List Pr) : rErr L = 0 ↔ SrtP L ∧ L.length ≤ 8 := by
  unfold rErr
  constructor
  · intro h
    split at h
    · exact absurd h (by decide)
    · refine ⟨?_, by omega⟩
      cases L with
      | nil => exact ⟨fun p hp => by simp at hp, List.Pairwise.nil⟩
      | cons a r =>
        have hok := chk_ok _ _ h
        have ha := hok a (by simp)
        rw [chk_first ha.1 ha.2] at h
        obtain ⟨h1, h2⟩ := (chk_srt r a).1 h
        exact ⟨hok, List.pairwise_cons.2 ⟨h2, h1.2⟩⟩
  · rintro ⟨⟨hok, hp⟩, hl⟩
    rw [if_neg (by omega)]
    cases L with
    | nil => rfl
    | cons a r =>
      have ha := hok a (by simp)
      rw [chk_first ha.1 ha.2]
      obtain ⟨h1, h2⟩ := List.pairwise_cons.1 hp
      exact (chk_srt r a).2 ⟨⟨fun p hp => hok p (by simp [hp]), h2⟩, h1⟩
theorem ins_mem (p : Pr) (L : List Pr) : ∀ q ∈ ins p L, q = p ∨ q ∈ L := by
  induction L with
  | nil => intro q hq; simp [ins] at hq; exact .inl hq
  | cons a r ih =>
    intro q hq
    unfold ins at hq
    split at hq
    · rcases List.mem_cons.1 hq with rfl | h
      · exact .inr (by simp)
      · rcases ih q h with h | h
        · exact .inl h
        · exact .inr (by simp [h])
    · split at hq
      · rcases List.mem_cons.1 hq with rfl | h
        · exact .inl rfl
        · exact .inr (by simp [h])
      · rcases List.mem_cons.1 hq with rfl | h
        · exact .inl rfl
        · exact .inr h
theorem ins_sz {p : Pr} {L : List Pr} (h : Sz L) (hp : Sz [p]) : Sz (ins p L) := fun q hq => by
  rcases ins_mem p L q hq with rfl | h'
  · exact hp q (by simp)
  · exact h q h'
def look (nm : List UInt8) (L : List Pr) : Option Pr := L.find? fun q => q.nm.toList == nm
theorem nErr_short {l : List UInt8} (h : nErr l = 0) : l.length ≤ 8 := by
  unfold nErr at h
  by_cases h1 : l = []
  · subst h1; simp
  · rw [if_neg h1] at h
    by_cases h2 : 8 < l.length
    · rw [if_pos h2] at h; omega
    · omega
theorem bad_short {p : Pr} (h : p.bad = 0) : p.s.data.toList.length ≤ 20 := by
  unfold Pr.bad vErr at h
  split at h
  · split at h
    · split at h
      · unfold tErr at h
        split at h
        · omega
        · omega
      · split at h
        · rename_i h2; rw [h2]; simp
        · omega
    · omega
  · omega
theorem ok_sz {p : Pr} (h : p.ok) : p.nm.size ≤ maxLen ∧ p.s.size ≤ maxLen := by
  have h1 := nErr_short h.1
  have h2 := bad_short h.2
  have e1 : p.nm.size = p.nm.data.toList.length := rfl
  have e2 : p.s.size = p.s.data.toList.length := rfl
  unfold Pr.l at h1
  unfold maxLen
  omega
theorem sz_of {L : List Pr} (h : rErr L = 0) : Sz L := fun p hp => ok_sz (((rErr_srt L).1 h).1.1 p hp)
def opE (o : Opx) (M : List Nd) (T : List Te) : Int :=
  if o.wh = 1 then newE o.nd M else if o.wh = 2 then goneE o.nd.id M else 1
def opM (o : Opx) (M : List Nd) (T : List Te) : List Nd :=
  if o.wh = 1 then newM o.nd M else if o.wh = 2 then M.eraseIdx (loN o.nd.id M) else M
def opT (o : Opx) (M : List Nd) (T : List Te) : List Te :=
  if o.wh = 2 then T.filter (keepT o.nd.id) else T
def opS : OpS := ⟨opE, opM, opT⟩
theorem newE_c (n : Nd) (N : List Nd) : newE n (cN N) = newE n N := by unfold newE; rw [fndN_c, cN_len]
set_option maxHeartbeats 1000000 in
theorem apply_new (o : Opx) (ho : o.wh = 1) : ApOk opS o := by
  intro w base p N T hG hb he hR zo
  obtain ⟨l60, l120, _, hct⟩ := gErr_lens he
  have hs := gErr_srt he
  have hst : SrtT T := ((chkT_iff T none).1 hct).2.1
  have hrc := fun n hn => (chkN_rc N none (gErr_lens he).2.2.1 n hn).2.2
  obtain ⟨av, lv, cv, hv⟩ := hR.sl
  obtain ⟨wh, ⟨id, kd, rv, rc⟩, ⟨nm, pt, pn, ps⟩, ⟨bd, fr, tt⟩⟩ := o
  simp only at ho hv hR
  subst ho hv
  obtain ⟨W0, hW0⟩ : ∃ W0, W0 = w.alloc (.cells #[.int .i64 1, .int .i64 id, .string kd, .slice av lv cv, .string nm, .int .i64 pt, .int .i64 pn, .string ps, .string bd, .int .i64 fr, .int .i64 tt] 48) := ⟨_, rfl⟩
  have hB0 : Below w.heap.size w W0 := by rw [hW0]; exact b_alloc (Below.refl _ _) _
  have hG0 := hG.on hB0
  have n0 : W0.heap[w.heap.size]? = some (.cells #[.int .i64 1, .int .i64 id, .string kd, .slice av lv cv, .string nm, .int .i64 pt, .int .i64 pn, .string ps, .string bd, .int .i64 fr, .int .i64 tt] 48 (0, 0)) := by rw [hW0]; exact heap_alloc_new w _
  have hb0 : base ≤ W0.heap.size := Nat.le_trans hb hB0.size
  have x0 : W0.cell? ⟨w.heap.size, 0, none⟩ = some (.int .i64 1) := cell_at n0 rfl
  have x1 : W0.cell? ⟨w.heap.size, 1, none⟩ = some (.int .i64 id) := cell_at n0 rfl
  have x2 : W0.cell? ⟨w.heap.size, 2, none⟩ = some (.string kd) := cell_at n0 rfl
  have x3 : W0.cell? ⟨w.heap.size, 3, none⟩ = some (.slice av lv cv) := cell_at n0 rfl
  have x8 : W0.cell? ⟨w.heap.size, 8, none⟩ = some (.string bd) := cell_at n0 rfl
  have x9 : W0.cell? ⟨w.heap.size, 9, none⟩ = some (.int .i64 fr) := cell_at n0 rfl
  have x10 : W0.cell? ⟨w.heap.size, 10, none⟩ = some (.int .i64 tt) := cell_at n0 rfl
  have cD := addNode_any hG0 hb0 hs l60 ⟨id, kd, .slice av lv cv, rc⟩ (hR.on hB0) zo.1
  show Calls Tryz.prog 77 _ w fun e w' => e = .returned (errV (newE ⟨id, kd, .slice av lv cv, rc⟩ (cN N))) ∧ (newE ⟨id, kd, .slice av lv cv, rc⟩ (cN N) = 0 → ∃ N', cN N' = newM ⟨id, kd, .slice av lv cv, rc⟩ (cN N) ∧ OG w' base p N' T) ∧ Below base w w'
  rw [newE_c]
  generalize newM ⟨id, kd, .slice av lv cv, rc⟩ (cN N) = NM at *
  generalize newE ⟨id, kd, .slice av lv cv, rc⟩ N = z at *
  generalize hEz : errV z = E at *
  have HB : Hid (Below w.heap.size w W0) := hB0
  clear hG0 hG hB0 n0 hs hst he hR hrc zo
  subst hW0
  go_enter Tryz.func77, Tryz.ntmps77
  go_wp2_with (first | (go_at_call 110; refine cD.mono ?_; rintro e W2 ⟨rfl, hG2, hB2⟩))
  go_ret
  exact ⟨rfl, hG2, (HB.out.mono hb).trans hB2⟩
theorem apply_gone' (o : Opx) (ho : o.wh = 2) : ApOk opS o := fun w base p N T hG hb he hR _ => by
  have := apply_gone o ho w base p N T hG hb he hR
  have e1 : opS.e o (cN N) T = goneE o.nd.id (cN N) := by show opE o (cN N) T = _; unfold opE; rw [if_neg (by omega), if_pos ho]
  have e2 : opS.m o (cN N) T = (cN N).eraseIdx (loN o.nd.id (cN N)) := by show opM o (cN N) T = _; unfold opM; rw [if_neg (by omega), if_pos ho]
  have e3 : opS.t o (cN N) T = T.filter (keepT o.nd.id) := by show opT o (cN N) T = _; unfold opT; rw [if_pos ho]
  rw [e1, e2, e3]
  exact this
theorem apply_all (o : Opx) : ApOk opS o := by
  intro w base p N T hG hb he hR zo
  rcases zo.2.2.2 with h1 | h2
  · exact apply_new o h1 w base p N T hG hb he hR zo
  · exact apply_gone' o h2 w base p N T hG hb he hR zo
theorem ndE_iff (n : Nd) : ndE none n = 0 ↔ idOk n.id = true ∧ nErr n.kd.data.toList = 0 ∧ rErr n.rc = 0 := by
  unfold ndE
  rw [if_neg (show ¬ n.low none = true by simp [Nd.low])]
  by_cases a : idOk n.id = true
  · rw [if_pos a]
    by_cases b : nErr n.kd.data.toList = 0
    · rw [if_pos b]; exact ⟨fun h => ⟨a, b, h⟩, fun h => h.2.2⟩
    · rw [if_neg b]; exact ⟨fun h => absurd h b, fun h => absurd h.2.1 b⟩
  · rw [if_neg a]; exact ⟨fun h => by omega, fun h => absurd h.1 a⟩
theorem lo_take {id : Int} {M : List Nd} (h : SrtN M) {x : Nd} (hx : x ∈ M.take (loN id M)) : x.id < id := by
  obtain ⟨i, hi⟩ := List.getElem?_of_mem hx
  have hl := (List.getElem?_eq_some_iff.1 hi).1
  rw [List.length_take] at hl
  rw [List.getElem?_take] at hi
  split at hi
  · exact (loN_spec id h i x hi).1 (by omega)
  · cases hi
theorem lo_drop {id : Int} {M : List Nd} (h : SrtN M) {x : Nd} (hx : x ∈ M.drop (loN id M)) : id ≤ x.id := by
  obtain ⟨i, hi⟩ := List.getElem?_of_mem hx
  rw [List.getElem?_drop] at hi
  have := loN_spec id h _ x hi
  have h2 : ¬ x.id < id := fun h => absurd (this.2 h) (by omega)
  omega
theorem fnd_iffD {id : Int} {M : List Nd} (h : SrtN M) : fndN id M = true ↔ ∃ n ∈ M, n.id = id := by
  constructor
  · intro hf
    have hl := fndN_lt hf
    refine ⟨M[loN id M], List.getElem_mem hl, ?_⟩
    unfold fndN at hf
    rw [List.getElem?_eq_getElem hl] at hf
    simpa using hf
  · rintro ⟨n, hn, rfl⟩
    obtain ⟨i, hi⟩ := List.getElem?_of_mem hn
    have h1 : ¬ i < loN n.id M := fun h' => absurd ((loN_spec n.id h i n hi).1 h') (Int.lt_irrefl _)
    have hil := (List.getElem?_eq_some_iff.1 hi).1
    have h2 : i = loN n.id M := by
      rcases Nat.lt_or_ge (loN n.id M) i with h3 | h3
      · exfalso
        have hlt : loN n.id M < M.length := by omega
        obtain ⟨h4, h5⟩ := List.getElem?_eq_some_iff.1 hi
        have h6 : (M[loN n.id M]).id < (M[i]).id := List.pairwise_iff_getElem.1 h _ _ hlt hil h3
        rw [h5] at h6
        have := (loN_spec n.id h (loN n.id M) _ (List.getElem?_eq_getElem hlt)).2 h6
        omega
      · omega
    unfold fndN
    rw [← h2, hi]
    simp
theorem srt_ins {M : List Nd} {n : Nd} (h : SrtN M) (hf : fndN n.id M = false) : SrtN (M.take (loN n.id M) ++ n :: M.drop (loN n.id M)) := by
  have hne : ∀ x ∈ M, x.id ≠ n.id := fun x hx e => by
    have := (fnd_iffD h).2 ⟨x, hx, e⟩
    rw [hf] at this; cases this
  have hs : (M.take (loN n.id M) ++ M.drop (loN n.id M)).Pairwise fun a b => a.id < b.id := by rw [List.take_append_drop]; exact h
  obtain ⟨a1, a2, a3⟩ := List.pairwise_append.1 hs
  refine List.pairwise_append.2 ⟨a1, List.pairwise_cons.2 ⟨fun x hx => ?_, a2⟩, fun x hx y hy => ?_⟩
  · have := lo_drop h hx
    have := hne x (List.mem_of_mem_drop hx)
    omega
  · rcases List.mem_cons.1 hy with rfl | hy
    · exact lo_take h hx
    · exact a3 x hx y hy
theorem gErr_one {n : Nd} (h : gErr [n] [] = 0) : ndE none n = 0 := ((gErr_iff _ _).1 h).1.2.2 n (by simp)
theorem newE_zero {n : Nd} {M : List Nd} (h : newE n M = 0) : gErr [n] [] = 0 ∧ fndN n.id M = false ∧ ¬ M.length = 60 := by
  unfold newE at h
  by_cases h1 : gErr [n] [] = 0
  · rw [if_pos h1] at h
    by_cases h2 : fndN n.id M = true
    · rw [if_pos h2] at h; omega
    · rw [if_neg h2] at h
      by_cases h3 : M.length = 60
      · rw [if_pos h3] at h; omega
      · exact ⟨h1, by simpa using h2, h3⟩
  · rw [if_neg h1] at h; exact absurd h h1
theorem ins_len3 {α : Type} (M : List α) (k : Nat) (hk : k ≤ M.length) (x : α) : (M.take k ++ x :: M.drop k).length = M.length + 1 := by simp; omega
theorem mem_ins3 {α : Type} {M : List α} {k : Nat} {x y : α} (h : y ∈ M.take k ++ x :: M.drop k) : y ∈ M ∨ y = x := by
  rcases List.mem_append.1 h with h | h
  · exact .inl (List.mem_of_mem_take h)
  · rcases List.mem_cons.1 h with h | h
    · exact .inr h
    · exact .inl (List.mem_of_mem_drop h)
theorem keeps_all (o : Opx) : KeepsR opS o := by
  intro M T h he
  have he : opE o M T = 0 := he
  show gErr (opM o M T) (opT o M T) = 0
  obtain ⟨⟨l1, a1, a2⟩, ⟨l2, b1, b2⟩⟩ := (gErr_iff M T).1 h
  unfold opE at he
  unfold opM opT
  by_cases h1 : o.wh = 1
  · rw [if_pos h1] at he ⊢
    rw [if_neg (by omega)]
    obtain ⟨e1, e2, e3⟩ := newE_zero he
    have hs : SrtN (newM o.nd M) := srt_ins (n := o.nd.c) a1 e2
    refine (gErr_iff _ _).2 ⟨⟨?_, hs, fun x hx => ?_⟩, ⟨l2, b1, b2⟩⟩
    · unfold newM; rw [ins_len3 _ _ (loN_le _ _)]; omega
    · rcases mem_ins3 hx with h' | rfl
      · exact a2 x h'
      · have := (ndE_iff _).1 (gErr_one e1)
        exact (ndE_iff _).2 this
  rw [if_neg h1] at he ⊢
  by_cases h2 : o.wh = 2
  · rw [if_pos h2, if_pos h2]
    exact gErr_sub h (List.eraseIdx_sublist M _) List.filter_sublist
  rw [if_neg h2] at he
  exact absurd he (by decide)
theorem nErr_sz {b : ByteArray} (h : nErr b.data.toList = 0) : b.size ≤ maxLen := by
  have := nErr_short h
  rw [size_len]
  unfold maxLen
  omega
theorem gErr_sz {M : List Nd} {T : List Te} (h : gErr M T = 0) : SzN M ∧ SzT T := by
  obtain ⟨⟨_, _, h1⟩, ⟨_, _, h2⟩⟩ := (gErr_iff M T).1 h
  refine ⟨fun n hn => ?_, fun t ht => ?_⟩
  case refine_2 =>
    have ho := h2 t ht
    unfold teE at ho
    split at ho
    · rename_i h3; exact nErr_sz h3
    · rename_i h3; exact absurd ho h3
  obtain ⟨_, e2, e3⟩ := (ndE_iff n).1 (h1 n hn)
  have := rErr_le e3
  exact ⟨nErr_sz e2, sz_of e3, by unfold maxLen; omega⟩
end Go.Proofs.YtahamkajkkkjdaaGreatDoor
