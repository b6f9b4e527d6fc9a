/-
  The walk of the law GraphEnds.
-/
import Derived.Test.YtddkdppeeadakaaEndA
namespace Go.Proofs.Ytddkdppeeadakaa
open Go.RowKit
set_option linter.unusedVariables false
set_option linter.unusedSimpArgs false

/-- What the rounds read: the graph's block and the node's id. -/
def Ctx (g b o : Nat) (vn vt : Value) (a : Int) (W : World) : Prop := (g < W.heap.size ∧ b < W.heap.size) ∧ W.cell? ⟨g, 0, none⟩ = some vn ∧ W.cell? ⟨g, 1, none⟩ = some vt ∧ W.cell? ⟨b, o, none⟩ = some (.int .i64 a)
theorem Ctx.on {g b o : Nat} {vn vt : Value} {a : Int} {w w' : World} (h : Ctx g b o vn vt a w) (hB : Below w.heap.size w w') : Ctx g b o vn vt a w' := by
  obtain ⟨⟨h1, h2⟩, a0, a1, a2⟩ := h
  exact ⟨⟨Nat.lt_of_lt_of_le h1 hB.size, Nat.lt_of_lt_of_le h2 hB.size⟩, (hB.cell h1).trans a0, (hB.cell h1).trans a1, (hB.cell h2).trans a2⟩
/-- Where the outer loop stands. -/
def EAt (w : World) (n : Nat) (s1 s2 s3 : Nat → Int) (v8 v9 v10 v11 : Value) (wr : World) : Prop :=
  ∃ k : Nat, k ≤ n ∧ v11 = .int .i64 k ∧ v8 = .int .i64 (s1 k) ∧ v9 = .int .i64 (s2 k) ∧ v10 = .int .i64 (s3 k) ∧ Below w.heap.size w wr
/-- Where an inner loop stands. -/
def IAt (w : World) (n : Nat) (s : Nat → Int) (v10 i : Value) (wr : World) : Prop :=
  ∃ k : Nat, k ≤ n ∧ i = .int .i64 k ∧ v10 = .int .i64 (s k) ∧ Below w.heap.size w wr
theorem IsI.at {w : World} {ao : Option Addr} {n c : Nat} {L : List Int} (h : IsI w (.slice ao n c) L) {k : Nat} {x : Int} (hx : L[k]? = some x) : ∃ b, ao = some ⟨b, 0, none⟩ ∧ b < w.heap.size ∧ w.cell? ⟨b, k, none⟩ = some (.int .i64 x) := by
  rcases h with ⟨_, rfl⟩ | ⟨b, cap, e, _, hb, hl⟩
  · simp at hx
  · injection e with e1 _ _
    exact ⟨b, e1, hb, hl k x hx⟩

/-- How much the sums can be. -/
def FB (N : List Nd) (T : List Te) (bd : ByteArray) : Prop := (∀ a, 0 ≤ ((outs T bd a).length : Int) ∧ ((outs T bd a).length : Int) ≤ 120) ∧ (∀ a, 0 ≤ ((inns T bd a).length : Int) ∧ ((inns T bd a).length : Int) ≤ 120) ∧ (∀ a, 0 ≤ gone (ids N) (outs T bd a) ∧ gone (ids N) (outs T bd a) ≤ 120) ∧ (∀ a, 0 ≤ gone (ids N) (inns T bd a) ∧ gone (ids N) (inns T bd a) ≤ 120)
/-- All that is known of the graph. -/
structure GK (w : World) (an am : Option Addr) (cn cm : Nat) (N : List Nd) (T : List Te) : Prop where
  hN : IsN w (.slice an N.length cn) N
  hT : IsT w (.slice am T.length cm) T
  zN : SzN N
  zT : SzT T
  lN : N.length ≤ maxLen
  lT : T.length ≤ maxLen
theorem GK.on {w w' : World} {an am : Option Addr} {cn cm : Nat} {N : List Nd} {T : List Te} (h : GK w an am cn cm N T) (hB : Below w.heap.size w w') : GK w' an am cn cm N T := ⟨h.hN.on hB, h.hT.on hB, h.zN, h.zT, h.lN, h.lT⟩

set_option maxHeartbeats 4000000 in
set_option maxRecDepth 100000 in
theorem ends_in {an am : Option Addr} {cn cm : Nat} {N : List Nd} {T : List Te} {w : World} (K : GK w an am cn cm N T) (bd : ByteArray) :
    Calls Try.prog 3 #[.agg #[.slice an N.length cn, .slice am T.length cm], .string bd] w fun e w' => e = .returned (.bool true) ∧ Below w.heap.size w w' := by
  have hB : Below w.heap.size w (w.alloc (.cells #[.slice an N.length cn, .slice am T.length cm] 25)) := b_alloc (Below.refl _ _) _
  have c1 := one_in (w.alloc (.cells #[.slice an N.length cn, .slice am T.length cm] 25))
  simp only [World.size_alloc] at c1
  have HG : Hid (∀ W, Below (w.heap.size + 1) (w.alloc (.cells #[.slice an N.length cn, .slice am T.length cm] 25)) W → w.heap.size < W.heap.size ∧ W.cell? ⟨w.heap.size, 0, none⟩ = some (.slice an N.length cn) ∧ W.cell? ⟨w.heap.size, 1, none⟩ = some (.slice am T.length cm)) := fun W hW => by
    refine ⟨?_, (hW.cell (by simp)).trans (by simp), (hW.cell (by simp)).trans (by simp)⟩
    have := hW.size; simp at this; omega
  have HK : Hid (GK w an am cn cm N T) := K
  have HB : Hid (∀ W, Below (w.heap.size + 1) (w.alloc (.cells #[.slice an N.length cn, .slice am T.length cm] 25)) W → Below w.heap.size w W) := fun W hW => hB.trans (hW.mono (by omega))
  have c2 := fun W (hW : Below (w.heap.size + 1) (w.alloc (.cells #[.slice an N.length cn, .slice am T.length cm] 25)) W) => gcheck_any (K.hN.on (hB.trans (hW.mono (by omega)))) (K.hT.on (hB.trans (hW.mono (by omega)))) K.zN K.zT K.lN K.lT
  clear K hB
  by_cases hg : gErr N T = 0
  · rw [hg, errV_0] at c2
    have HE : Hid (gErr N T = 0) := hg
    clear hg
    go_enter Try.func3, Try.ntmps3
    go_wp2_with (first | (go_at_call 4; refine c1.mono ?_; rintro e W1 ⟨b1, cc1, rfl, k1, hB1⟩; obtain ⟨s1, q0, q1⟩ := HG.out W1 hB1) | (go_at_call 5; refine (c2 W1 hB1).mono ?_; rintro e W2 ⟨rfl, hB2⟩))
    have hW2 : Below (w.heap.size + 1) (w.alloc (.cells #[.slice an N.length cn, .slice am T.length cm] 25)) W2 := hB1.trans (hB2.mono s1)
    have HW : Hid (Below w.heap.size w W2) := HB.out W2 hW2
    obtain ⟨s2, p0, p1⟩ := HG.out W2 hW2
    clear c1 c2 k1 q0 q1 HG HB hB1 hB2 hW2 s1
    have HX : Hid ((ids N).Nodup ∧ N.length ≤ 60 ∧ T.length ≤ 120) := ⟨gErr_nodup HE.out, gErr_len HE.out⟩
    have h60 : N.length ≤ 60 := HX.out.2.1
    have fb1 : ∀ a, 0 ≤ ((outs T bd a).length : Int) ∧ ((outs T bd a).length : Int) ≤ 120 := fun a => by
      have := outs_le T bd a; have := HX.out.2.2; omega
    have fb2 : ∀ a, 0 ≤ ((inns T bd a).length : Int) ∧ ((inns T bd a).length : Int) ≤ 120 := fun a => by
      have := inns_le T bd a; have := HX.out.2.2; omega
    have fb3 : ∀ a, 0 ≤ gone (ids N) (outs T bd a) ∧ gone (ids N) (outs T bd a) ≤ 120 := fun a => by
      have := gone_b (ids N) (outs T bd a); have := fb1 a; omega
    have fb4 : ∀ a, 0 ≤ gone (ids N) (inns T bd a) ∧ gone (ids N) (inns T bd a) ≤ 120 := fun a => by
      have := gone_b (ids N) (inns T bd a); have := fb2 a; omega
    have hlen : (ids N).length = N.length := by unfold ids; rw [List.length_map]
    have HF : Hid (FB N T bd) := ⟨fb1, fb2, fb3, fb4⟩
    have HP : Hid (W2.cell? ⟨w.heap.size, 0, none⟩ = some (.slice an N.length cn) ∧ W2.cell? ⟨w.heap.size, 1, none⟩ = some (.slice am T.length cm)) := ⟨p0, p1⟩
    clear fb1 fb2 fb3 fb4 p0 p1
    go_loopw [8, 9, 10, 11] (fun v8 v9 v10 v11 wr => EAt W2 N.length (sm (fun a => ((outs T bd a).length : Int)) (ids N)) (sm (fun a => ((inns T bd a).length : Int)) (ids N)) (fun k => sm (fun a => gone (ids N) (outs T bd a)) (ids N) k - sm (fun a => gone (ids N) (inns T bd a)) (ids N) k) v8 v9 v10 v11 wr) (fun _ _ _ i _ => N.length - (intOf i).toNat)
    case atStart => exact ⟨0, Nat.zero_le _, rfl, rfl, rfl, rfl, Below.refl _ _⟩
    case round =>
      obtain ⟨k, hk, rfl, rfl, rfl, rfl, hBr⟩ := hrel
      have g0 : wr.cell? ⟨w.heap.size, 0, none⟩ = some (.slice an N.length cn) := (hBr.cell s2).trans HP.out.1
      have g1 : wr.cell? ⟨w.heap.size, 1, none⟩ = some (.slice am T.length cm) := (hBr.cell s2).trans HP.out.2
      have b1' := sm_b (fun a => HF.out.1 a) (ids N) k (by omega)
      have b2' := sm_b (fun a => HF.out.2.1 a) (ids N) k (by omega)
      have b3' := sm_b (fun a => HF.out.2.2.1 a) (ids N) k (by omega)
      have b4' := sm_b (fun a => HF.out.2.2.2 a) (ids N) k (by omega)
      have HS : Hid (∃ k1, k1 = k) := ⟨k, rfl⟩
      obtain ⟨t1, ht1⟩ : ∃ t, sm (fun a => ((outs T bd a).length : Int)) (ids N) k = t := ⟨_, rfl⟩
      obtain ⟨t2, ht2⟩ : ∃ t, sm (fun a => ((inns T bd a).length : Int)) (ids N) k = t := ⟨_, rfl⟩
      obtain ⟨t3, ht3⟩ : ∃ t, sm (fun a => gone (ids N) (outs T bd a)) (ids N) k = t := ⟨_, rfl⟩
      obtain ⟨t4, ht4⟩ : ∃ t, sm (fun a => gone (ids N) (inns T bd a)) (ids N) k = t := ⟨_, rfl⟩
      simp only [ht1, ht2, ht3, ht4] at b1' b2' b3' b4' ⊢
      have HT : Hid (sm (fun a => ((outs T bd a).length : Int)) (ids N) k = t1 ∧ sm (fun a => ((inns T bd a).length : Int)) (ids N) k = t2 ∧ sm (fun a => gone (ids N) (outs T bd a)) (ids N) k = t3 ∧ sm (fun a => gone (ids N) (inns T bd a)) (ids N) k = t4) := ⟨ht1, ht2, ht3, ht4⟩
      clear ht1 ht2 ht3 ht4 HS
      by_cases hlt : k < N.length
      · obtain ⟨n, hn⟩ : ∃ n, N[k]? = some n := ⟨N[k], by simp [hlt]⟩
        obtain ⟨b, off, rfl, hb, hL⟩ : ∃ b off, an = some ⟨b, off, none⟩ ∧ b < w.heap.size ∧ LiesN w b off N := by
          obtain ⟨an', cn', e, _, h0 | h⟩ := HK.out.hN
          · rw [h0] at hlt; simp at hlt
          · injection e with e1 _ _; subst e1; exact h
        have hbw : Below w.heap.size w wr := on1 HW.out hBr
        have d0 := (hbw.cell (p := ⟨b, off + k * 3, none⟩) hb).trans (hL k n hn).1
        obtain ⟨a, ha⟩ : ∃ a, n.id = a := ⟨_, rfl⟩
        rw [ha] at d0
        have HA : Hid ((ids N)[k]? = some a) := by
          show _ = _
          unfold ids; rw [List.getElem?_map, hn, ← ha]; rfl
        have hfa : fE N T a = 0 := fE_ok HE.out (by rw [hasId_ids]; simpa using List.mem_of_getElem? HA.out)
        have hwr : w.heap.size < wr.heap.size := Nat.lt_of_lt_of_le s2 hBr.size
        have hbr : b < wr.heap.size := Nat.lt_of_lt_of_le hb hbw.size
        have HC : Hid (Ctx w.heap.size b (off + k * 3) (.slice (some ⟨b, off, none⟩) N.length cn) (.slice am T.length cm) a wr.drew) := ⟨⟨hwr, hbr⟩, g0, g1, d0⟩
        have HBw : Hid (Below W2.heap.size W2 wr.drew ∧ Below w.heap.size w wr.drew) := ⟨b_drew hBr, b_drew hbw⟩
        have hG := HK.out.on HBw.out.2
        have co := out_ok hG.hN hG.hT hG.zN hG.zT hG.lN hG.lT bd hfa
        have ci := fun W (hW : Below wr.drew.heap.size wr.drew W) => in_ok (hG.hN.on hW) (hG.hT.on hW) hG.zN hG.zT hG.lN hG.lT bd hfa
        have hx1 := HF.out.1 a
        have hx2 := HF.out.2.1 a
        have hi1 : (k : Int) < (N.length : Int) := by omega
        clear hG hL hn ha hbw hBr
        obtain ⟨X, hX⟩ : ∃ X, outs T bd a = X := ⟨_, rfl⟩
        obtain ⟨Y, hY⟩ : ∃ Y, inns T bd a = Y := ⟨_, rfl⟩
        simp only [hX, hY] at co ci hx1 hx2
        have HXY : Hid (outs T bd a = X ∧ inns T bd a = Y) := ⟨hX, hY⟩
        clear hX hY
        go_wp2
        first | (go_region_held (fun w' => w'.cell? ⟨w.heap.size, 0, none⟩ = some (.slice (some ⟨b, off, none⟩) N.length cn) ∧ w'.cell? ⟨w.heap.size, 1, none⟩ = some (.slice am T.length cm) ∧ w'.cell? ⟨b, off + k * 3, none⟩ = some (.int .i64 a)) (go_keep) (first | (go_at_call 6; refine co.mono ?_; rintro e W3 ⟨ax, cx, rfl, hIx, hB3⟩; obtain ⟨_, r0, r1, r2⟩ := HC.out.on hB3))) | fail
        go_wp2
        have HC3 : Hid (Ctx w.heap.size b (off + k * 3) (.slice (some ⟨b, off, none⟩) N.length cn) (.slice am T.length cm) a W3.drew) := HC.out.on (b_drew hB3)
        have HB3 : Hid (Below w.heap.size w W3.drew ∧ Below W2.heap.size W2 W3.drew) := ⟨on1 HBw.out.2 (b_drew hB3), on1 HBw.out.1 (b_drew hB3)⟩
        have ci3 := ci W3.drew (b_drew hB3)
        have HIx : Hid (IsI W3.drew (.slice ax X.length cx) X) := hIx.on (b_drew (Below.refl _ _))
        have hw8 : IntKind.i64.wrap (t1 + (X.length : Int)) = t1 + (X.length : Int) := by rw [IntKind.wrap_i64]; omega
        have hw9 : IntKind.i64.wrap (t2 + (Y.length : Int)) = t2 + (Y.length : Int) := by rw [IntKind.wrap_i64]; omega
        clear ci co hIx hB3 g0 g1 d0
        first | (go_region_held (fun w' => w'.cell? ⟨w.heap.size, 0, none⟩ = some (.slice (some ⟨b, off, none⟩) N.length cn) ∧ w'.cell? ⟨w.heap.size, 1, none⟩ = some (.slice am T.length cm) ∧ w'.cell? ⟨b, off + k * 3, none⟩ = some (.int .i64 a)) (go_keep) (first | (go_at_call 4; refine ci3.mono ?_; rintro e W4 ⟨ay, cy, rfl, hIy, hB4⟩; obtain ⟨_, r0, r1, r2⟩ := HC3.out.on hB4))) | fail
        go_wp2
        have HC4 : Hid (Ctx w.heap.size b (off + k * 3) (.slice (some ⟨b, off, none⟩) N.length cn) (.slice am T.length cm) a W4) := HC3.out.on hB4
        have HBw4 : Hid (Below w.heap.size w W4) := on1 HB3.out.1 hB4
        have HBv4 : Hid (Below W2.heap.size W2 W4) := on1 HB3.out.2 hB4
        have HI4 : Hid (IsI W4 (.slice ax X.length cx) X) := HIx.out.on hB4
        have HY4 : Hid (IsI W4 (.slice ay Y.length cy) Y) := hIy
        clear ci3 hIy hB4 HC3 HB3 HIx r0 r1 r2
        obtain ⟨wo, hwo⟩ : ∃ wo, wo = wr := ⟨wr, rfl⟩
        subst hwo
        go_loopw [10, 16] (fun v10 i wr => IAt W4 X.length (fun j => t3 - t4 + gone (ids N) (X.take j)) v10 i wr) (fun _ i _ => X.length - (intOf i).toNat)
        case atStart => exact ⟨0, Nat.zero_le _, rfl, by simp [gone], Below.refl _ _⟩
        case round =>
          obtain ⟨j, hj, rfl, rfl, hBq⟩ := hrel
          have gb := gone_b (ids N) (X.take j)
          have gl : ((X.take j).length : Int) ≤ 120 := by rw [List.length_take]; omega
          obtain ⟨gj, hgj⟩ : ∃ g, gone (ids N) (X.take j) = g := ⟨_, rfl⟩
          have HJ : Hid (gone (ids N) (X.take j) = gj) := hgj
          simp only [hgj] at gb ⊢
          clear hgj
          have HCq : Hid (Ctx w.heap.size b (off + k * 3) (.slice (some ⟨b, off, none⟩) N.length cn) (.slice am T.length cm) a wr.drew) := HC4.out.on (b_drew hBq)
          obtain ⟨zq, m0, m1, m2⟩ := HC4.out.on hBq
          have HBq : Hid (Below W4.heap.size W4 wr.drew) := b_drew hBq
          have hG := HK.out.on (on1 HBw4.out HBq.out)
          by_cases hlt2 : j < X.length
          · obtain ⟨x, hx⟩ : ∃ x, X[j]? = some x := ⟨X[j], by simp [hlt2]⟩
            have HIq : Hid (IsI wr (.slice ax X.length cx) X) := HI4.out.on hBq
            have HXa : Hid (X[j]? = some x) := hx
            obtain ⟨bx, hbx1, hbx2, dx⟩ := HIq.out.at hx
            have hback : a ∈ inns T bd x := there_back (by rw [HXY.out.1]; exact List.mem_of_getElem? hx)
            have HS5 : Hid (Below wr.drew.heap.size wr.drew wr.drew) := Below.refl _ _
            have hj1 : (j : Int) < (X.length : Int) := by omega
            have hbl := inns_le T bd x
            have h120' := HX.out.2.2
            clear hx
            subst hbx1
            by_cases hh : hasId N x = true
            · have hfx : fE N T x = 0 := fE_ok HE.out hh
              have cb := in_ok hG.hN hG.hT hG.zN hG.zT hG.lN hG.lT bd hfx
              obtain ⟨Z, hZ⟩ : ∃ Z, inns T bd x = Z := ⟨_, rfl⟩
              rw [hZ] at cb hback hbl
              have hcz : Z.contains a = true := by simpa using hback
              have ck := fun W v (h : IsI W v Z) => kin_any h (by omega) a
              rw [hcz] at ck
              have HR : Hid (gone (ids N) (X.take (j + 1)) = gj) := by
                show _ = _
                rw [gone_in HXa.out (by rw [← hasId_ids]; exact hh), HJ.out]
              clear hZ hcz hback hbl hG hfx hh hBq
              go_wp2
              first | (go_region_held (fun w' => w'.cell? ⟨w.heap.size, 0, none⟩ = some (.slice (some ⟨b, off, none⟩) N.length cn) ∧ w'.cell? ⟨w.heap.size, 1, none⟩ = some (.slice am T.length cm) ∧ w'.cell? ⟨bx, j, none⟩ = some (.int .i64 x)) (go_keep) (first | (go_at_call 4; refine cb.mono ?_; rintro e W6 ⟨az, cz, rfl, hIz, hB6⟩; obtain ⟨_, r0, r1, r2⟩ := HCq.out.on hB6; have r3 := (hB6.cell (p := ⟨bx, j, none⟩) hbx2).trans dx))) | fail
              go_wp2_with (first | (go_at_call 7; refine (ck _ _ hIz).mono ?_; rintro e W7 ⟨rfl, rfl⟩))
              refine ⟨?_, ?_⟩
              · exact ⟨j + 1, by omega, by go_num, by simp only [HR.out], on1 HBq.out hB6⟩
              · simp [intOf]
                try omega
            · have hh' : hasId N x = false := by simpa using hh
              have hfx : fE N T x = 5 := fE_no HE.out hh'
              have cb := in_no hG.hN hG.hT hG.zN hG.zT hG.lN hG.lT bd hfx
              have HR : Hid (gone (ids N) (X.take (j + 1)) = gj + 1) := by
                show _ = _
                rw [gone_out HXa.out (by rw [← hasId_ids]; exact hh'), HJ.out]
              have hwl : IntKind.i64.wrap ((t3 - t4 + gj) + 1) = (t3 - t4 + gj) + 1 := by rw [IntKind.wrap_i64]; omega
              clear hback hbl hG hfx hh hh' hBq
              go_wp2
              first | (go_region_held (fun w' => w'.cell? ⟨w.heap.size, 0, none⟩ = some (.slice (some ⟨b, off, none⟩) N.length cn) ∧ w'.cell? ⟨w.heap.size, 1, none⟩ = some (.slice am T.length cm) ∧ w'.cell? ⟨bx, j, none⟩ = some (.int .i64 x)) (go_keep) (first | (go_at_call 4; refine cb.mono ?_; rintro e W6 ⟨rfl, hB6⟩; obtain ⟨_, r0, r1, r2⟩ := HCq.out.on hB6; have r3 := (hB6.cell (p := ⟨bx, j, none⟩) hbx2).trans dx))) | fail
              go_wp2_with (first | (go_at_call 7; refine (kin_nil a _).mono ?_; rintro e W7 ⟨rfl, rfl⟩))
              refine ⟨?_, ?_⟩
              · exact ⟨j + 1, by omega, by go_num, by simp only [HR.out]; congr 1; omega, on1 HBq.out hB6⟩
              · simp [intOf]
                try omega
          · obtain rfl : j = X.length := by omega
            clear hG
            go_wp2
            obtain ⟨W5, hW5⟩ : ∃ W5, W5 = wr := ⟨wr, rfl⟩
            subst hW5
            have HC5 : Hid (Ctx w.heap.size b (off + k * 3) (.slice (some ⟨b, off, none⟩) N.length cn) (.slice am T.length cm) a W5) := HC4.out.on hBq
            have HBw5 : Hid (Below w.heap.size w W5) := on1 HBw4.out hBq
            have HBv5 : Hid (Below W2.heap.size W2 W5) := on1 HBv4.out hBq
            have HI5 : Hid (IsI W5 (.slice ay Y.length cy) Y) := HY4.out.on hBq
            have HJ5 : Hid (gone (ids N) X = gj) := by
              show _ = _
              have := HJ.out; rw [List.take_length] at this; exact this
            obtain ⟨gx, hgx⟩ : ∃ gx, gx = gj := ⟨gj, rfl⟩
            subst hgx
            clear hBq HC4 HBw4 HBv4 HI4 HY4 HCq HBq HJ m0 m1 m2 zq
            go_loopw [10, 20] (fun v10 i wr => IAt W5 Y.length (fun j => t3 - t4 + gx - gone (ids N) (Y.take j)) v10 i wr) (fun _ i _ => Y.length - (intOf i).toNat)
            case atStart => exact ⟨0, Nat.zero_le _, rfl, by simp [gone], Below.refl _ _⟩
            case round =>
              obtain ⟨j, hj, rfl, rfl, hBq⟩ := hrel
              have gb := gone_b (ids N) (Y.take j)
              have gl : ((Y.take j).length : Int) ≤ 120 := by rw [List.length_take]; omega
              obtain ⟨gj, hgj⟩ : ∃ g, gone (ids N) (Y.take j) = g := ⟨_, rfl⟩
              have HJ : Hid (gone (ids N) (Y.take j) = gj) := hgj
              simp only [hgj] at gb ⊢
              clear hgj
              have HCq : Hid (Ctx w.heap.size b (off + k * 3) (.slice (some ⟨b, off, none⟩) N.length cn) (.slice am T.length cm) a wr.drew) := HC5.out.on (b_drew hBq)
              obtain ⟨zq, m0, m1, m2⟩ := HC5.out.on hBq
              have HBq : Hid (Below W5.heap.size W5 wr.drew) := b_drew hBq
              have hG := HK.out.on (on1 HBw5.out HBq.out)
              by_cases hlt2 : j < Y.length
              · obtain ⟨x, hx⟩ : ∃ x, Y[j]? = some x := ⟨Y[j], by simp [hlt2]⟩
                have HIq : Hid (IsI wr (.slice ay Y.length cy) Y) := HI5.out.on hBq
                have HXa : Hid (Y[j]? = some x) := hx
                obtain ⟨bx, hbx1, hbx2, dx⟩ := HIq.out.at hx
                have hback : a ∈ outs T bd x := back_there (by rw [HXY.out.2]; exact List.mem_of_getElem? hx)
                have HS5 : Hid (Below wr.drew.heap.size wr.drew wr.drew) := Below.refl _ _
                have hj1 : (j : Int) < (Y.length : Int) := by omega
                have hbl := outs_le T bd x
                have h120' := HX.out.2.2
                clear hx
                subst hbx1
                by_cases hh : hasId N x = true
                · have hfx : fE N T x = 0 := fE_ok HE.out hh
                  have cb := out_ok hG.hN hG.hT hG.zN hG.zT hG.lN hG.lT bd hfx
                  obtain ⟨Z, hZ⟩ : ∃ Z, outs T bd x = Z := ⟨_, rfl⟩
                  rw [hZ] at cb hback hbl
                  have hcz : Z.contains a = true := by simpa using hback
                  have ck := fun W v (h : IsI W v Z) => kin_any h (by omega) a
                  rw [hcz] at ck
                  have HR : Hid (gone (ids N) (Y.take (j + 1)) = gj) := by
                    show _ = _
                    rw [gone_in HXa.out (by rw [← hasId_ids]; exact hh), HJ.out]
                  clear hZ hcz hback hbl hG hfx hh hBq
                  go_wp2
                  first | (go_region_held (fun w' => w'.cell? ⟨w.heap.size, 0, none⟩ = some (.slice (some ⟨b, off, none⟩) N.length cn) ∧ w'.cell? ⟨w.heap.size, 1, none⟩ = some (.slice am T.length cm) ∧ w'.cell? ⟨bx, j, none⟩ = some (.int .i64 x)) (go_keep) (first | (go_at_call 6; refine cb.mono ?_; rintro e W6 ⟨az, cz, rfl, hIz, hB6⟩; obtain ⟨_, r0, r1, r2⟩ := HCq.out.on hB6; have r3 := (hB6.cell (p := ⟨bx, j, none⟩) hbx2).trans dx))) | fail
                  go_wp2_with (first | (go_at_call 7; refine (ck _ _ hIz).mono ?_; rintro e W7 ⟨rfl, rfl⟩))
                  refine ⟨?_, ?_⟩
                  · exact ⟨j + 1, by omega, by go_num, by simp only [HR.out], on1 HBq.out hB6⟩
                  · simp [intOf]
                    try omega
                · have hh' : hasId N x = false := by simpa using hh
                  have hfx : fE N T x = 5 := fE_no HE.out hh'
                  have cb := out_no hG.hN hG.hT hG.zN hG.zT hG.lN hG.lT bd hfx
                  have HR : Hid (gone (ids N) (Y.take (j + 1)) = gj + 1) := by
                    show _ = _
                    rw [gone_out HXa.out (by rw [← hasId_ids]; exact hh'), HJ.out]
                  have hwl : IntKind.i64.wrap ((t3 - t4 + gx - gj) - 1) = (t3 - t4 + gx - gj) - 1 := by rw [IntKind.wrap_i64]; omega
                  clear hback hbl hG hfx hh hh' hBq
                  go_wp2
                  first | (go_region_held (fun w' => w'.cell? ⟨w.heap.size, 0, none⟩ = some (.slice (some ⟨b, off, none⟩) N.length cn) ∧ w'.cell? ⟨w.heap.size, 1, none⟩ = some (.slice am T.length cm) ∧ w'.cell? ⟨bx, j, none⟩ = some (.int .i64 x)) (go_keep) (first | (go_at_call 6; refine cb.mono ?_; rintro e W6 ⟨rfl, hB6⟩; obtain ⟨_, r0, r1, r2⟩ := HCq.out.on hB6; have r3 := (hB6.cell (p := ⟨bx, j, none⟩) hbx2).trans dx))) | fail
                  go_wp2_with (first | (go_at_call 7; refine (kin_nil a _).mono ?_; rintro e W7 ⟨rfl, rfl⟩))
                  refine ⟨?_, ?_⟩
                  · exact ⟨j + 1, by omega, by go_num, by simp only [HR.out]; congr 1; omega, on1 HBq.out hB6⟩
                  · simp [intOf]
                    try omega
              · obtain rfl : j = Y.length := by omega
                clear hG
                go_wp2
                have HJ6 : Hid (gone (ids N) Y = gj) := by
                  show _ = _
                  have := HJ.out; rw [List.take_length] at this; exact this
                have HBv6 : Hid (Below W2.heap.size W2 wr) := on1 HBv5.out hBq
                refine ⟨?_, ?_⟩
                · refine ⟨k + 1, by omega, by go_num, ?_, ?_, ?_, HBv6.out⟩
                  · rw [sm_s _ HA.out, HT.out.1, HXY.out.1]
                  · rw [sm_s _ HA.out, HT.out.2.1, HXY.out.2]
                  · simp only; rw [sm_s _ HA.out, sm_s _ HA.out, HT.out.2.2.1, HT.out.2.2.2, HXY.out.1, HXY.out.2, HJ5.out, HJ6.out]; congr 1; omega
                · simp [intOf]
                  try omega
      · obtain rfl : k = N.length := by omega
        have hfin : t1 - t2 = t3 - t4 := by
          have := ends_sum T bd HX.out.1
          obtain ⟨e1, e2, e3, e4⟩ := HT.out
          rw [← hlen, sm_all] at e1 e2 e3 e4
          rw [e1, e2, e3, e4] at this
          exact this
        have hw : IntKind.i64.wrap (t3 - t4) = t3 - t4 := by rw [IntKind.wrap_i64]; omega
        go_wp2
        go_ret
        exact ⟨ret_bool (by simp [hfin, hw]), on1 HW.out hBr⟩
  · rw [errV_ne hg] at c2
    clear hg
    go_enter Try.func3, Try.ntmps3
    go_wp2_with (first | (go_at_call 4; refine c1.mono ?_; rintro e W1 ⟨b1, cc1, rfl, k1, hB1⟩; obtain ⟨s1, q0, q1⟩ := HG.out W1 hB1) | (go_at_call 5; refine (c2 W1 hB1).mono ?_; rintro e W2 ⟨rfl, hB2⟩))
    go_ret
    exact ⟨rfl, on1 (HB.out W1 hB1) hB2⟩
end Go.Proofs.Ytddkdppeeadakaa
