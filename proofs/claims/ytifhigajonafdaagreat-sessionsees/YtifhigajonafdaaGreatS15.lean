/-
  The walk of delta.addNode.
-/
import Derived.Test.YtifhigajonafdaaGreatS10
import Derived.Test.YtifhigajonafdaaGreatS07
import Derived.Test.YtifhigajonafdaaGreatS14
import Derived.Test.YtifhigajonafdaaGreatS06
import Derived.Test.YtifhigajonafdaaGreatS12
namespace Go.Proofs.YtifhigajonafdaaGreat
open Go.RowKit
set_option linter.unusedVariables false
set_option linter.unusedSimpArgs false

def newE (n : Nd) (M : List Nd) : Int := if gErr [n] [] = 0 then (if fndN n.id M = true then 7 else if M.length = 60 then 4 else 0) else gErr [n] []
def newM (n : Nd) (M : List Nd) : List Nd := M.take (loN n.id M) ++ n.c :: M.drop (loN n.id M)
abbrev anW (w : World) (n : Nd) : World := (w.alloc (.cells #[.int .i64 n.id, .string n.kd, n.rv] 48)).alloc (.cells #[.int .i64 n.id, .string n.kd, n.rv] 48)
theorem anW_1 (w : World) (n : Nd) : (anW w n).heap[w.heap.size + 1]? = some (.cells #[.int .i64 n.id, .string n.kd, n.rv] 48 (0, 0)) := by
  have := heap_alloc_new (w.alloc (.cells #[.int .i64 n.id, .string n.kd, n.rv] 48)) (.cells #[.int .i64 n.id, .string n.kd, n.rv] 48)
  rwa [World.size_alloc] at this
theorem anW_isN {w : World} {n : Nd} (hR : IsR w n.rv n.rc) : IsN (anW w n) (.slice (some ⟨w.heap.size + 1, 0, none⟩) 1 1) [n] := by
  refine ⟨_, 1, rfl, Nat.le_refl _, .inr ⟨w.heap.size + 1, 0, rfl, by simp [anW], fun k x hx => ?_⟩⟩
  obtain ⟨rfl, rfl⟩ : k = 0 ∧ n = x := by
    have := (List.getElem?_eq_some_iff.1 hx).1
    have hk : k = 0 := by simp at this; exact this
    subst hk
    exact ⟨rfl, by simpa using hx⟩
  exact ⟨cell_at (anW_1 w n) rfl, cell_at (anW_1 w n) rfl, cell_at (anW_1 w n) rfl, hR.on (b_alloc (b_alloc (Below.refl _ _) _) _)⟩
theorem isT_nil (w : World) : IsT w (.slice none 0 0) [] := ⟨none, 0, rfl, Nat.le_refl _, .inl rfl⟩
theorem new_own {W3 W4 : World} {base B : Nat} {vn v4 v' : Value} {N : List Nd} {n f : Nd} {lo : Nat} (hN : OwnNs W3 base vn N) (hr : OwnRc W3 B v' n.rc) (hB : base ≤ B) (hfv : f.rv = v') (hfr : f.rc = n.rc) (h4 : W4.ownsRow base 48 3 v4 (N.take lo ++ f :: N.drop lo).length (cellsN (N.take lo ++ f :: N.drop lo))) (hk : Kt 52 W3 W4) : OwnNs W4 base v4 (N.take lo ++ f :: N.drop lo) := by
  refine ⟨h4, fun x hx => ?_⟩
  rcases List.mem_append.1 hx with h | h
  · exact (hN.2 x (List.mem_of_mem_take h)).kt hk
  · rcases List.mem_cons.1 h with rfl | h
    · rw [hfv, hfr]
      exact OwnRc.kt (own_base hr hB) hk
    · exact (hN.2 x (List.mem_of_mem_drop h)).kt hk

set_option maxHeartbeats 4000000 in
set_option maxRecDepth 100000 in
theorem addNode_any {w : World} {base p : Nat} {N : List Nd} {T : List Te} (h : OG w base p N T) (hbw : base ≤ w.heap.size) (hs : SrtN N) (h60 : N.length ≤ 60) (n : Nd) (hR : IsR w n.rv n.rc) (zn : n.kd.size ≤ maxLen ∧ Sz n.rc ∧ n.rc.length ≤ maxLen) :
    Calls Tryz.prog 77 #[.pointer (some ⟨p, 0, none⟩), n.one] w fun e w' => e = .returned (errV (newE n N)) ∧ (newE n N = 0 → ∃ N', cN N' = newM n (cN N) ∧ OG w' base p N' T) ∧ Below base w w' := by
  obtain ⟨vn, vt, hbp, hpb, hN, hT⟩ := h
  have D : OGv w base p vn vt N T := ⟨hbp, hpb, hN, hT⟩
  have cG := gcheck_any (anW_isN hR) (isT_nil (anW w n)) (fun x hx => by simp at hx; subst hx; exact zn) (fun x hx => by cases hx) (by show 1 ≤ maxLen; decide) (by show 0 ≤ maxLen; decide)
  obtain ⟨W0, hW0⟩ : ∃ W0, W0 = w.alloc (.cells #[.int .i64 n.id, .string n.kd, n.rv] 48) := ⟨_, rfl⟩
  have hB0 : Below w.heap.size w W0 := by rw [hW0]; exact b_alloc (Below.refl _ _) _
  have hi0 : W0.heap[w.heap.size]? = some (.cells #[.int .i64 n.id, .string n.kd, n.rv] 48 (0, 0)) := by rw [hW0]; exact heap_alloc_new w _
  have D0 := D.on hB0
  have hpl := D.pl
  obtain ⟨an, cn, hvn⟩ := own_slice hN.1
  obtain ⟨am, cm, hvt⟩ := own_slice hT
  subst hvn hvt
  have hs0 : W0.heap.size = w.heap.size + 1 := by rw [hW0]; simp
  unfold anW at cG
  rw [← hW0] at cG
  have x1 : W0.cell? ⟨w.heap.size, 0, none⟩ = some (.int .i64 n.id) := cell_at hi0 rfl
  have x2 : W0.cell? ⟨w.heap.size, 1, none⟩ = some (.string n.kd) := cell_at hi0 rfl
  have x3 : W0.cell? ⟨w.heap.size, 2, none⟩ = some n.rv := cell_at hi0 rfl
  have HX : Hid (∀ W, Below W0.heap.size W0 W → OGv W base p (.slice an N.length cn) (.slice am T.length cm) N T ∧ W.heap[w.heap.size]? = some (.cells #[.int .i64 n.id, .string n.kd, n.rv] 48 (0, 0)) ∧ Below w.heap.size w W ∧ IsR W n.rv n.rc) := fun W hB => ⟨D0.on hB, (hB.block _ (by omega)).trans hi0, on1K hB0 hB (Nat.le_refl _), hR.on (on1K hB0 hB (Nat.le_refl _))⟩
  have HT : Hid (SrtN N ∧ ∀ W, IsN W (.slice an N.length cn) N → Calls Tryz.prog 107 #[.slice an N.length cn, .int .i64 n.id] W fun e w' => e = .returned (.tuple #[.int .i64 (loN n.id N), .bool (fndN n.id N)]) ∧ Below W.heap.size W w') := ⟨hs, fun W hW => findNode_any hW hs (by omega) n.id⟩
  have hBX : Below W0.heap.size W0 (W0.alloc (.cells #[.int .i64 n.id, .string n.kd, n.rv] 48)) := b_alloc (Below.refl _ _) _
  have HBX := Lib.hid hBX
  have HSL : Hid (SlN N) := hN.sl
  obtain ⟨av, lv, cv, hv⟩ := hR.sl
  clear hpb hN hT hB0 hi0 D D0 hs hBX
  have cF := fun W hW => HT.out.2 W hW
  have hlo := loN_le n.id N
  by_cases hz : gErr [n] [] = 0
  · have hr8 : n.rc.length ≤ 1000 := by have := gErr_rc8 hz n (by simp); omega
    rw [hz, show errV 0 = .nilIface from rfl] at cG
    cases hfd : fndN n.id N with
    | true =>
      have hE : newE n N = 7 := by unfold newE; rw [if_pos hz, if_pos hfd]
      rw [hE, show errV 7 = .iface 74 (.int .i64 7) from rfl]
      rw [hfd] at cF
      clear hz hE hfd
      have HL : Hid (newM n (cN N) = (cN N).take (loN n.id N) ++ n.c :: (cN N).drop (loN n.id N)) := by unfold newM; rw [loN_c]; rfl
      obtain ⟨lo, hlo'⟩ : ∃ lo, lo = loN n.id N := ⟨_, rfl⟩
      rw [← hlo'] at cF hlo HL
      obtain ⟨id, kd, rv, rc⟩ := n
      simp only at x1 x2 x3 HX cG HBX hv HL cF zn
      subst hv
      have hrl : rc.length ≤ maxLen := zn.2.2
      clear hlo' zn HT hR
      go_enter Tryz.func77, Tryz.ntmps77
      go_upto_region 1 with fail
      rw [← hW0]
      clear hW0
      go_wp2_with (first | (go_at_call 41; refine cG.mono ?_; rintro e W1 ⟨rfl, hB1'⟩; refine Hid.out ?_))
      refine Lib.hid ?_
      have hB1 : Below W0.heap.size W0 W1 := on1K HBX.out hB1' (Nat.le_refl _)
      obtain ⟨D1, q1, b1, r1⟩ := HX.out W1 hB1
      have y0 : W1.cell? ⟨p, 0, none⟩ = some (.slice an N.length cn) := cell_at D1.hp rfl
      have y1 : W1.cell? ⟨w.heap.size, 0, none⟩ = some (.int .i64 id) := cell_at q1 rfl
      have cF1 := cF W1.drew D1.hN.isN
      have HB1 := Lib.hid hB1
      have HY : Hid (∀ W, Below W1.heap.size W1 W → W.cell? ⟨p, 0, none⟩ = some (.slice an N.length cn) ∧ W.cell? ⟨w.heap.size, 0, none⟩ = some (.int .i64 id) ∧ W.cell? ⟨w.heap.size, 1, none⟩ = some (.string kd) ∧ W.cell? ⟨w.heap.size, 2, none⟩ = some (.slice av lv cv)) := fun W hB => by
        obtain ⟨D2, q2, _⟩ := HX.out W (on1K HB1.out hB (Nat.le_refl _))
        exact ⟨cell_at D2.hp rfl, cell_at q2 rfl, cell_at q2 rfl, cell_at q2 rfl⟩
      clear hB1 hB1' q1 b1 r1 cG x1 x2 x3 HBX D1
      go_wp2
      first | (go_region_held (fun w' => w'.cell? ⟨p, 0, none⟩ = some (.slice an N.length cn) ∧ w'.cell? ⟨w.heap.size, 0, none⟩ = some (.int .i64 id)) (go_keep) (first | (go_at_call 107; refine cF1.mono ?_; rintro e W2 ⟨rfl, hB2'⟩; have hB2 := b_undrew hB2'; clear hB2'; obtain ⟨z0, z1, z2, z3⟩ := HY.out W2 hB2))) | fail
      all_goals
        go_wp2
        go_ret
        exact ⟨rfl, fun h => (by cases h), (HX.out W2 (on1K HB1.out hB2 (Nat.le_refl _))).2.2.1.mono hbw⟩
    | false =>
      rw [hfd] at cF
      by_cases hfull : N.length = 60
      · have hE : newE n N = 4 := by unfold newE; rw [if_pos hz, hfd, if_neg (by decide), if_pos hfull]
        rw [hE, show errV 4 = .iface 74 (.int .i64 4) from rfl]
        have hfb : ((N.length : Int) == 60) = true := by rw [hfull]; rfl
        clear hz hE hfd hfull
        have HL : Hid (newM n (cN N) = (cN N).take (loN n.id N) ++ n.c :: (cN N).drop (loN n.id N)) := by unfold newM; rw [loN_c]; rfl
        obtain ⟨lo, hlo'⟩ : ∃ lo, lo = loN n.id N := ⟨_, rfl⟩
        rw [← hlo'] at cF hlo HL
        obtain ⟨id, kd, rv, rc⟩ := n
        simp only at x1 x2 x3 HX cG HBX hv HL cF zn
        subst hv
        have hrl : rc.length ≤ maxLen := zn.2.2
        clear hlo' zn HT hR
        go_enter Tryz.func77, Tryz.ntmps77
        go_upto_region 1 with fail
        rw [← hW0]
        clear hW0
        go_wp2_with (first | (go_at_call 41; refine cG.mono ?_; rintro e W1 ⟨rfl, hB1'⟩; refine Hid.out ?_))
        refine Lib.hid ?_
        have hB1 : Below W0.heap.size W0 W1 := on1K HBX.out hB1' (Nat.le_refl _)
        obtain ⟨D1, q1, b1, r1⟩ := HX.out W1 hB1
        have y0 : W1.cell? ⟨p, 0, none⟩ = some (.slice an N.length cn) := cell_at D1.hp rfl
        have y1 : W1.cell? ⟨w.heap.size, 0, none⟩ = some (.int .i64 id) := cell_at q1 rfl
        have cF1 := cF W1.drew D1.hN.isN
        have HB1 := Lib.hid hB1
        have HY : Hid (∀ W, Below W1.heap.size W1 W → W.cell? ⟨p, 0, none⟩ = some (.slice an N.length cn) ∧ W.cell? ⟨w.heap.size, 0, none⟩ = some (.int .i64 id) ∧ W.cell? ⟨w.heap.size, 1, none⟩ = some (.string kd) ∧ W.cell? ⟨w.heap.size, 2, none⟩ = some (.slice av lv cv)) := fun W hB => by
          obtain ⟨D2, q2, _⟩ := HX.out W (on1K HB1.out hB (Nat.le_refl _))
          exact ⟨cell_at D2.hp rfl, cell_at q2 rfl, cell_at q2 rfl, cell_at q2 rfl⟩
        clear hB1 hB1' q1 b1 r1 cG x1 x2 x3 HBX D1
        go_wp2
        first | (go_region_held (fun w' => w'.cell? ⟨p, 0, none⟩ = some (.slice an N.length cn) ∧ w'.cell? ⟨w.heap.size, 0, none⟩ = some (.int .i64 id)) (go_keep) (first | (go_at_call 107; refine cF1.mono ?_; rintro e W2 ⟨rfl, hB2'⟩; have hB2 := b_undrew hB2'; clear hB2'; obtain ⟨z0, z1, z2, z3⟩ := HY.out W2 hB2))) | fail
        all_goals
          go_wp2
          go_ret
          exact ⟨rfl, fun h => (by cases h), (HX.out W2 (on1K HB1.out hB2 (Nat.le_refl _))).2.2.1.mono hbw⟩
      · have hE : newE n N = 0 := by unfold newE; rw [if_pos hz, hfd, if_neg (by decide), if_neg hfull]
        rw [hE, show errV 0 = .nilIface from rfl]
        clear hz hE hfd
        have hfi : ¬ ((N.length : Int) = 60) := by omega
        have HL : Hid (newM n (cN N) = (cN N).take (loN n.id N) ++ n.c :: (cN N).drop (loN n.id N)) := by unfold newM; rw [loN_c]; rfl
        obtain ⟨lo, hlo'⟩ : ∃ lo, lo = loN n.id N := ⟨_, rfl⟩
        rw [← hlo'] at cF hlo HL
        obtain ⟨id, kd, rv, rc⟩ := n
        simp only at x1 x2 x3 HX cG HBX hv HL cF zn hr8
        subst hv
        have hrl : rc.length ≤ maxLen := zn.2.2
        clear hlo' zn HT hR
        go_enter Tryz.func77, Tryz.ntmps77
        go_upto_region 1 with fail
        rw [← hW0]
        clear hW0
        go_wp2_with (first | (go_at_call 41; refine cG.mono ?_; rintro e W1 ⟨rfl, hB1'⟩; refine Hid.out ?_))
        refine Lib.hid ?_
        have hB1 : Below W0.heap.size W0 W1 := on1K HBX.out hB1' (Nat.le_refl _)
        obtain ⟨D1, q1, b1, r1⟩ := HX.out W1 hB1
        have y0 : W1.cell? ⟨p, 0, none⟩ = some (.slice an N.length cn) := cell_at D1.hp rfl
        have y1 : W1.cell? ⟨w.heap.size, 0, none⟩ = some (.int .i64 id) := cell_at q1 rfl
        have cF1 := cF W1.drew D1.hN.isN
        have HB1 := Lib.hid hB1
        have HY : Hid (∀ W, Below W1.heap.size W1 W → W.cell? ⟨p, 0, none⟩ = some (.slice an N.length cn) ∧ W.cell? ⟨w.heap.size, 0, none⟩ = some (.int .i64 id) ∧ W.cell? ⟨w.heap.size, 1, none⟩ = some (.string kd) ∧ W.cell? ⟨w.heap.size, 2, none⟩ = some (.slice av lv cv)) := fun W hB => by
          obtain ⟨D2, q2, _⟩ := HX.out W (on1K HB1.out hB (Nat.le_refl _))
          exact ⟨cell_at D2.hp rfl, cell_at q2 rfl, cell_at q2 rfl, cell_at q2 rfl⟩
        clear hB1 hB1' q1 b1 r1 cG x1 x2 x3 HBX D1
        go_wp2
        first | (go_region_held (fun w' => w'.cell? ⟨p, 0, none⟩ = some (.slice an N.length cn) ∧ w'.cell? ⟨w.heap.size, 0, none⟩ = some (.int .i64 id)) (go_keep) (first | (go_at_call 107; refine cF1.mono ?_; rintro e W2 ⟨rfl, hB2'⟩; have hB2 := b_undrew hB2'; clear hB2'; obtain ⟨z0, z1, z2, z3⟩ := HY.out W2 hB2))) | fail
        all_goals
          obtain ⟨D2, q2, b2, r2⟩ := HX.out W2 (on1K HB1.out hB2 (Nat.le_refl _))
          have cc := copiedNode_any ⟨id, kd, .slice av lv cv, rc⟩ W2.drew r2 hr8
          have hp2 : p < W2.heap.size := D2.pl
          have HC : Hid (∀ W3 v', OwnRc W3 W2.heap.size v' rc → Below W2.heap.size W2 W3 → (∃ a l c, v' = .slice a l c) → Calls Tryz.prog 108 #[.slice an N.length cn, .int .i64 lo, .slice (some ⟨W3.heap.size, 0, none⟩) 1 1] (W3.alloc (.cells #[.int .i64 id, .string kd, v'] 48)) fun e w' => ∃ v4, e = .returned v4 ∧ OwnNs w' base v4 (N.take lo ++ ⟨id, kd, v', rc⟩ :: N.drop lo) ∧ (W3.alloc (.cells #[.int .i64 id, .string kd, v'] 48)).grownBy w' (Value.slice an N.length cn).ownBlock ∧ OGv (W3.alloc (.cells #[.int .i64 id, .string kd, v'] 48)) base p (.slice an N.length cn) (.slice am T.length cm) N T ∧ Below w.heap.size w (W3.alloc (.cells #[.int .i64 id, .string kd, v'] 48))) := fun W3 v' hr3 hB3 hsl3 => by
            have hX3 : Below W3.heap.size W3 (W3.alloc (.cells #[.int .i64 id, .string kd, v'] 48)) := b_alloc (Below.refl _ _) _
            have D3 := (D2.on hB3).on hX3
            have b3 : Below w.heap.size w (W3.alloc (.cells #[.int .i64 id, .string kd, v'] 48)) := on1K (on1K b2 hB3 (Nat.le_refl _)) hX3 (Nat.le_refl _)
            refine (insertN_any D3.hN.1 lo hlo W3.heap.size ⟨id, kd, v', rc⟩ hsl3 HSL.out (heap_alloc_new W3 _) (fun e => by have := (World.ownsRow.lt (D2.on hB3).hN.1 _ e).2; exact absurd this (Nat.lt_irrefl _)) (Nat.le_trans hbw b3.size) (by omega)).mono ?_
            rintro e w' ⟨v4, rfl, h4, h5⟩
            exact ⟨v4, rfl, new_own (n := ⟨id, kd, v', rc⟩) D3.hN (OwnRc.kt hr3 (.of_below hX3)) (Nat.le_trans hbw b2.size) rfl rfl h4 (Kt.of_own D3.hN.1 (by decide) h5), h5, D3, b3⟩
          have HZ : Hid (∀ W, Below W2.heap.size W2 W → W.cell? ⟨p, 0, none⟩ = some (.slice an N.length cn) ∧ W.cell? ⟨w.heap.size, 0, none⟩ = some (.int .i64 id) ∧ W.cell? ⟨w.heap.size, 1, none⟩ = some (.string kd) ∧ W.cell? ⟨w.heap.size, 2, none⟩ = some (.slice av lv cv)) := fun W hB => HY.out W (on1K hB2 hB (Nat.le_refl _))
          clear D2 q2 b2 r2 HX HY cF cF1 hB2
          go_wp2
          first | (go_region_law (first | (go_simp; go_at_call 21; refine cc.mono ?_; rintro e W3 ⟨v3, rfl, hr3, hB3'⟩; have hB3 := b_undrew hB3'; clear hB3'; obtain ⟨a3, l3, c3, hv3⟩ := hr3.sl; subst hv3; have cI := HC.out W3 _ hr3 hB3 ⟨a3, l3, c3, rfl⟩; obtain ⟨s0, s1, s2, s3⟩ := HZ.out W3 hB3; have w0 := cell_old s0; clear hr3 hB3) | (go_simp; go_at_call 108; refine cI.mono ?_; rintro e W4 ⟨v4, rfl, ho4, hg4, D4, b4⟩; obtain ⟨a4, c4, hv4⟩ := own_slice ho4.1; subst hv4; have hp4 := D4.pN hg4; have t0 : W4.cell? ⟨p, 0, none⟩ = some (.slice an N.length cn) := cell_at hp4 rfl; have g0 : W4.frozen? ⟨p, 0, none⟩ = false := frz_at hp4; have HO := Lib.hid (And.intro ho4 (And.intro hg4 (And.intro D4 b4))); clear ho4 hg4 hp4 D4 b4))) | fail
          all_goals
            go_wp2
            go_ret
            obtain ⟨o1, o2, o3, o4⟩ := HO.out
            refine ⟨rfl, fun _ => ⟨N.take lo ++ ⟨id, kd, .slice a3 l3 c3, rc⟩ :: N.drop lo, ?_, ?_⟩, (below_row (o4.mono hbw) o3.hN.1 o2 (Nat.le_refl _) (Nat.le_trans hbw o4.size)).setCell hbp _⟩
            · rw [HL.out]
              unfold cN
              rw [List.map_append, List.map_cons, List.map_take, List.map_drop]
              rfl
            · have e : (N.take lo ++ (⟨id, kd, .slice a3 l3 c3, rc⟩ : Nd) :: N.drop lo).length = lo + (N.length - lo + 1) := by simp; omega
              have hh := (OGv.nodes o3 o2 o1).og
              rw [e] at hh
              exact hh
  · have hE : newE n N = gErr [n] [] := by unfold newE; rw [if_neg hz]
    rw [hE]
    rw [errV_ne hz] at cG ⊢
    obtain ⟨z, hzz⟩ : ∃ z, z = gErr [n] [] := ⟨_, rfl⟩
    rw [← hzz] at cG hz ⊢
    clear hE hzz cF zn hR
    obtain ⟨id, kd, rv, rc⟩ := n
    simp only at x1 x2 x3 HX cG HBX hv
    subst hv
    have HZ := Lib.hid hz
    clear hz HT
    go_enter Tryz.func77, Tryz.ntmps77
    go_upto_region 1 with fail
    rw [← hW0]
    clear hW0
    go_wp2_with (first | (go_at_call 41; refine cG.mono ?_; rintro e W1 ⟨rfl, hB1⟩))
    go_ret
    exact ⟨rfl, fun h => absurd h HZ.out, (HX.out W1 (on1K HBX.out hB1 (Nat.le_refl _))).2.2.1.mono hbw⟩
end Go.Proofs.YtifhigajonafdaaGreat

/-
  Records that are right, in plain words: properties that rise by name, each right by itself; with one more.
-/
namespace Go.Proofs.YtifhigajonafdaaGreat
open Go.RowKit
set_option linter.unusedVariables false
set_option linter.unusedSimpArgs false

def Pr.ok (p : Pr) : Prop := nErr p.l = 0 ∧ p.bad = 0
theorem chk_ok (L : List Pr) : ∀ o, chk o L = 0 → ∀ p ∈ L, p.ok := by
  induction L with
  | nil => intro o _ p hp; simp at hp
  | cons a r ih =>
    intro o h p hp
    have h1 : nErr a.l = 0 := by
      by_cases h1 : nErr a.l = 0
      · exact h1
      · rw [chk_name h1] at h; exact absurd h h1
    have h2 : a.bad = 0 := by
      by_cases h2 : a.bad = 0
      · exact h2
      · rw [chk_bad h1 h2] at h; exact absurd h h2
    rcases List.mem_cons.1 hp with rfl | hp
    · exact ⟨h1, h2⟩
    · cases o with
      | none => rw [chk_first h1 h2] at h; exact ih _ h p hp
      | some q =>
        by_cases h3 : a.low q = true
        · rw [chk_low h1 h2 h3] at h; exact absurd h (by decide)
        · rw [chk_up h1 h2 (by simpa using h3)] at h; exact ih _ h p hp
theorem lt_iff (p q : Pr) : p.lt q = true ↔ Lib.compareBytes p.nm.toList q.nm.toList < 0 := by
  unfold Pr.lt; rw [less_cmp]; simp
theorem lt_trans {p q r : Pr} (h1 : p.lt q = true) (h2 : q.lt r = true) : p.lt r = true := by
  rw [lt_iff] at *
  have h3 := cmpB_trans p.nm.toList q.nm.toList r.nm.toList (by omega) (by omega)
  rcases Int.lt_or_eq_of_le h3 with h | h
  · exact h
  · have e := (cmpB_zero _ _).1 h
    rw [e] at h1
    have := cmpB_anti q.nm.toList r.nm.toList
    omega
theorem low_lt {p q : Pr} : p.low q = false ↔ q.lt p = true := by
  unfold Pr.low
  rw [lt_iff, less_cmp]
  have ha := cmpB_anti p.nm.toList q.nm.toList
  have hz := cmpB_zero p.nm.toList q.nm.toList
  have hr := cmpB_range p.nm.toList q.nm.toList
  constructor
  · intro h
    rw [Bool.or_eq_false_iff] at h
    have h1 : ¬ Lib.compareBytes p.nm.toList q.nm.toList < 0 := by simpa using h.1
    have h2 : ¬ p.nm.toList = q.nm.toList := by simpa using h.2
    have h3 : ¬ Lib.compareBytes p.nm.toList q.nm.toList = 0 := fun e => h2 (hz.1 e)
    omega
  · intro h
    rw [Bool.or_eq_false_iff]
    refine ⟨by simp; omega, ?_⟩
    have : ¬ p.nm.toList = q.nm.toList := fun e => by have := hz.2 e; omega
    simpa using this
def SrtP (L : List Pr) : Prop := (∀ p ∈ L, p.ok) ∧ L.Pairwise fun a b => a.lt b = true
theorem chk_srt (L : List Pr) : ∀ q : Pr, chk (some q) L = 0 ↔ SrtP L ∧ ∀ p ∈ L, q.lt p = true := by
  induction L with
  | nil => intro q; exact ⟨fun _ => ⟨⟨fun p hp => by simp at hp, List.Pairwise.nil⟩, fun p hp => by simp at hp⟩, fun _ => rfl⟩
  | cons a r ih =>
    intro q
    constructor
    · intro h
      have hok := chk_ok (a :: r) _ h
      have ha := hok a (by simp)
      have h3 : a.low q = false := by
        cases h4 : a.low q
        · rfl
        · rw [chk_low ha.1 ha.2 h4] at h; exact absurd h (by decide)
      rw [chk_up ha.1 ha.2 h3] at h
      obtain ⟨hs, hl⟩ := (ih a).1 h
      have hqa := low_lt.1 h3
      refine ⟨⟨hok, List.pairwise_cons.2 ⟨hl, hs.2⟩⟩, fun p hp => ?_⟩
      rcases List.mem_cons.1 hp with rfl | hp
      · exact hqa
      · exact lt_trans hqa (hl p hp)
    · rintro ⟨⟨hok, hp⟩, hl⟩
      have ha := hok a (by simp)
      rw [chk_up ha.1 ha.2 (low_lt.2 (hl a (by simp)))]
      obtain ⟨h1, h2⟩ := List.pairwise_cons.1 hp
      exact (ih a).2 ⟨⟨fun p hp => hok p (by simp [hp]), h2⟩, h1⟩
theorem rErr_srt (L : List Pr) : rErr L = 0 ↔ SrtP L ∧ L.length ≤ 8 := by
  unfold rErr
  constructor
  · intro h
    split at h
    · exact absurd h (by decide)
    · refine ⟨?_, by omega⟩
      cases L with
      | nil => exact ⟨fun p hp => by simp at hp, List.Pairwise.nil⟩
      | cons a r =>
        have hok := chk_ok _ _ h
        have ha := hok a (by simp)
        rw [chk_first ha.1 ha.2] at h
        obtain ⟨h1, h2⟩ := (chk_srt r a).1 h
        exact ⟨hok, List.pairwise_cons.2 ⟨h2, h1.2⟩⟩
  · rintro ⟨⟨hok, hp⟩, hl⟩
    rw [if_neg (by omega)]
    cases L with
    | nil => rfl
    | cons a r =>
      have ha := hok a (by simp)
      rw [chk_first ha.1 ha.2]
      obtain ⟨h1, h2⟩ := List.pairwise_cons.1 hp
      exact (chk_srt r a).2 ⟨⟨fun p hp => hok p (by simp [hp]), h2⟩, h1⟩
theorem ins_mem (p : Pr) (L : List Pr) : ∀ q ∈ ins p L, q = p ∨ q ∈ L := by
  induction L with
  | nil => intro q hq; simp [ins] at hq; exact .inl hq
  | cons a r ih =>
    intro q hq
    unfold ins at hq
    split at hq
    · rcases List.mem_cons.1 hq with rfl | h
      · exact .inr (by simp)
      · rcases ih q h with h | h
        · exact .inl h
        · exact .inr (by simp [h])
    · split at hq
      · rcases List.mem_cons.1 hq with rfl | h
        · exact .inl rfl
        · exact .inr (by simp [h])
      · rcases List.mem_cons.1 hq with rfl | h
        · exact .inl rfl
        · exact .inr h
theorem not_lt_eq {a p : Pr} (h1 : ¬ a.lt p = true) (h2 : ¬ (a.nm.toList == p.nm.toList) = true) : p.lt a = true := by
  rw [lt_iff] at *
  have ha := cmpB_anti a.nm.toList p.nm.toList
  have hr := cmpB_range a.nm.toList p.nm.toList
  have h3 : ¬ Lib.compareBytes a.nm.toList p.nm.toList = 0 := fun e => h2 (by simpa using (cmpB_zero _ _).1 e)
  omega
theorem lt_same {a p b : Pr} (he : a.nm.toList = p.nm.toList) (h : a.lt b = true) : p.lt b = true := by
  rw [lt_iff] at *; rw [← he]; exact h
theorem ins_srt {p : Pr} {L : List Pr} (h : SrtP L) (hp : p.ok) : SrtP (ins p L) := by
  refine ⟨fun q hq => ?_, ?_⟩
  · rcases ins_mem p L q hq with rfl | h'
    · exact hp
    · exact h.1 q h'
  · have hpw := h.2
    clear h
    induction L with
    | nil => simp [ins]
    | cons a r ih =>
      obtain ⟨h1, h2⟩ := List.pairwise_cons.1 hpw
      unfold ins
      split
      · rename_i hlt
        refine List.pairwise_cons.2 ⟨fun q hq => ?_, ih h2⟩
        rcases ins_mem p r q hq with rfl | h'
        · exact hlt
        · exact h1 q h'
      · rename_i hlt
        split
        · rename_i heq
          have he : a.nm.toList = p.nm.toList := by simpa using heq
          exact List.pairwise_cons.2 ⟨fun q hq => lt_same he (h1 q hq), h2⟩
        · rename_i hne
          have hpa := not_lt_eq hlt hne
          refine List.pairwise_cons.2 ⟨fun q hq => ?_, hpw⟩
          rcases List.mem_cons.1 hq with rfl | h'
          · exact hpa
          · exact lt_trans hpa (h1 q h')
def look (nm : List UInt8) (L : List Pr) : Option Pr := L.find? fun q => q.nm.toList == nm
theorem nErr_short {l : List UInt8} (h : nErr l = 0) : l.length ≤ 8 := by
  unfold nErr at h
  by_cases h1 : l = []
  · subst h1; simp
  · rw [if_neg h1] at h
    by_cases h2 : 8 < l.length
    · rw [if_pos h2] at h; omega
    · omega
theorem bad_short {p : Pr} (h : p.bad = 0) : p.s.data.toList.length ≤ 20 := by
  unfold Pr.bad vErr at h
  split at h
  · split at h
    · split at h
      · unfold tErr at h
        split at h
        · omega
        · omega
      · split at h
        · rename_i h2; rw [h2]; simp
        · omega
    · omega
  · omega
theorem ok_sz {p : Pr} (h : p.ok) : p.nm.size ≤ maxLen ∧ p.s.size ≤ maxLen := by
  have h1 := nErr_short h.1
  have h2 := bad_short h.2
  have e1 : p.nm.size = p.nm.data.toList.length := rfl
  have e2 : p.s.size = p.s.data.toList.length := rfl
  unfold Pr.l at h1
  unfold maxLen
  omega
theorem sz_of {L : List Pr} (h : rErr L = 0) : Sz L := fun p hp => ok_sz (((rErr_srt L).1 h).1.1 p hp)
end Go.Proofs.YtifhigajonafdaaGreat
