/-
  The walk of CheckHolds.
-/
import Derived.Test.YtjjnfnlkfojehaaLawM
namespace Go.Proofs.Ytjjnfnlkfojehaa
open Go.RowKit
set_option linter.unusedVariables false
set_option linter.unusedSimpArgs false

/-- Its two boxes. -/
def LSt (w : World) (c1 c2 : Array Value) (wr : World) : Prop := Below w.heap.size w wr ∧ w.heap.size + 2 ≤ wr.heap.size ∧ wr.heap[w.heap.size]? = some (.cells c1 25 (0, 0)) ∧ wr.heap[w.heap.size + 1]? = some (.cells c2 29 (0, 0))
theorem LSt.on {w wr w' : World} {c1 c2 : Array Value} (h : LSt w c1 c2 wr) (hB : Below wr.heap.size wr w') : LSt w c1 c2 w' := by
  obtain ⟨h1, h2, h3, h4⟩ := h
  exact ⟨on1K h1 hB (Nat.le_refl _), Nat.le_trans h2 hB.size, (hB.block _ (by omega)).trans h3, (hB.block _ (by omega)).trans h4⟩
theorem own_first {w : World} {base : Nat} {u : Value} {f : Ft} (h : OwnX w base u [f]) : ∃ g cp, u = .slice (some ⟨g, 0, none⟩) 1 cp ∧ w.cell? ⟨g, 0, none⟩ = some (.int .i64 f.wh) ∧ w.cell? ⟨g, 1, none⟩ = some (.int .i64 f.id) := by
  have hc : ∀ g, u.ownBlock = some g → ∀ j v, (cellsX [f])[j]? = some v → w.cell? ((⟨g, 0, none⟩ : Addr).add j) = some v := fun g hg => World.ownsRow.cells h hg
  rcases h.2 with ⟨rfl, h0⟩ | ⟨g, cap, cur, rfl, hb, hg, rest⟩
  · simp at h0
  · have c0 := hc g rfl 0 _ rfl
    have c1 := hc g rfl 1 _ rfl
    rw [Addr.add_lit] at c0 c1
    exact ⟨g, cap, rfl, c0, c1⟩
set_option maxHeartbeats 8000000 in
set_option maxRecDepth 100000 in
theorem holds_in {vs vg : Value} {L : List Kd} {B : List Bd} {N : List Nd} {T : List Te} {w : World} (hs : IsSc w vs L B) (hg : IsG w vg N T) : Calls Try.prog 3 #[vs, vg] w fun e w' => e = .returned (.bool true) ∧ Below w.heap.size w w' := by
  have HH : Hid (IsSc w vs L B ∧ IsG w vg N T) := ⟨hs, hg⟩
  obtain ⟨vk, vb, rfl, hK, hP, hz, hb, hzb⟩ := hs
  obtain ⟨vn, vt, rfl, hN, hT, zN, zT, lN, lT⟩ := hg
  obtain ⟨ak, ck, rfl, _⟩ := hK.sln
  obtain ⟨ab, cb, rfl, _⟩ := hb.sln
  obtain ⟨an, cn, rfl, _⟩ := hN
  obtain ⟨at', ct, rfl, _⟩ := hT
  have hz0 : (box2 w #[.slice ak L.length ck, .slice ab B.length cb] 25 #[.slice an N.length cn, .slice at' T.length ct] 29).heap.size = w.heap.size + 2 := box2_size _ _ _ _ _
  have HL1 : Hid (LSt w #[.slice ak L.length ck, .slice ab B.length cb] #[.slice an N.length cn, .slice at' T.length ct] (((box2 w #[.slice ak L.length ck, .slice ab B.length cb] 25 #[.slice an N.length cn, .slice at' T.length ct] 29).alloc (.cells #[.int .i64 1, .string ⟨#[97]⟩, .slice none 0 0] 33)).alloc (.cells #[.slice (some ⟨w.heap.size + 1 + 1, 0, none⟩) 1 1, .slice none 0 0] 29))) := by
    have h0 : LSt w #[.slice ak L.length ck, .slice ab B.length cb] #[.slice an N.length cn, .slice at' T.length ct] (box2 w #[.slice ak L.length ck, .slice ab B.length cb] 25 #[.slice an N.length cn, .slice at' T.length ct] 29) := by
      refine ⟨box2_below _ _ _ _ _, by rw [hz0]; exact Nat.le_refl _, (Below.heap_alloc _ _ _ (by simp)).trans (heap_alloc_new w _), ?_⟩
      have := heap_alloc_new (w.alloc (.cells #[.slice ak L.length ck, .slice ab B.length cb] 25)) (.cells #[.slice an N.length cn, .slice at' T.length ct] 29)
      rwa [World.size_alloc] at this
    exact (h0.on (b_allocK (Below.refl _ _) (Nat.le_refl _) _)).on (b_allocK (Below.refl _ _) (Nat.le_refl _) _)
  have HG1 : Hid (IsG (((box2 w #[.slice ak L.length ck, .slice ab B.length cb] 25 #[.slice an N.length cn, .slice at' T.length ct] 29).alloc (.cells #[.int .i64 1, .string ⟨#[97]⟩, .slice none 0 0] 33)).alloc (.cells #[.slice (some ⟨w.heap.size + 1 + 1, 0, none⟩) 1 1, .slice none 0 0] 29)) (.agg #[.slice (some ⟨w.heap.size + 1 + 1, 0, none⟩) 1 1, .slice none 0 0]) [ndA] []) := by
    have h1 := isN_new (box2 w #[.slice ak L.length ck, .slice ab B.length cb] 25 #[.slice an N.length cn, .slice at' T.length ct] 29) 1 ⟨#[97]⟩ (.slice none 0 0) [] ⟨none, 0, rfl, .inl rfl⟩
    rw [hz0] at h1
    refine ⟨_, _, rfl, h1.on (b_allocK (Below.refl _ _) (Nat.le_refl _) _), ⟨none, 0, rfl, Nat.le_refl _, .inl rfl⟩, fun n hn => ?_, fun t ht => by simp at ht, by simp [maxLen], Nat.zero_le _⟩
    obtain rfl : n = ndA := by simpa using hn
    exact ⟨by simp [maxLen, ByteArray.size], fun p hp => by simp at hp, Nat.zero_le _⟩
  have c5 := faults_any (w := (((box2 w #[.slice ak L.length ck, .slice ab B.length cb] 25 #[.slice an N.length cn, .slice at' T.length ct] 29).alloc (.cells #[.int .i64 1, .string ⟨#[97]⟩, .slice none 0 0] 33)).alloc (.cells #[.slice (some ⟨w.heap.size + 1 + 1, 0, none⟩) 1 1, .slice none 0 0] 29))) (vs := .agg #[.slice none 0 0, .slice none 0 0]) (L := []) (B := []) ⟨_, _, rfl, .inl ⟨rfl, rfl⟩, fun k hk => by simp at hk, fun k hk => by simp at hk, .inl ⟨rfl, rfl⟩, fun x hx => by simp at hx⟩ HG1.out
  rw [fact_in, fact_all] at c5
  have c5' : Calls Try.prog 5 #[.agg #[.slice none 0 0, .slice none 0 0], .agg #[.slice (some ⟨w.heap.size + 1 + 1, 0, none⟩) 1 1, .slice none 0 0]] (((box2 w #[.slice ak L.length ck, .slice ab B.length cb] 25 #[.slice an N.length cn, .slice at' T.length ct] 29).alloc (.cells #[.int .i64 1, .string ⟨#[97]⟩, .slice none 0 0] 33)).alloc (.cells #[.slice (some ⟨w.heap.size + 1 + 1, 0, none⟩) 1 1, .slice none 0 0] 29)) fun e w' => ∃ g cp, e = .returned (.tuple #[.slice (some ⟨g, 0, none⟩) 1 cp, .nilIface]) ∧ w'.cell? ⟨g, 0, none⟩ = some (.int .i64 1) ∧ w'.cell? ⟨g, 1, none⟩ = some (.int .i64 1) ∧ Below (((box2 w #[.slice ak L.length ck, .slice ab B.length cb] 25 #[.slice an N.length cn, .slice at' T.length ct] 29).alloc (.cells #[.int .i64 1, .string ⟨#[97]⟩, .slice none 0 0] 33)).alloc (.cells #[.slice (some ⟨w.heap.size + 1 + 1, 0, none⟩) 1 1, .slice none 0 0] 29)).heap.size (((box2 w #[.slice ak L.length ck, .slice ab B.length cb] 25 #[.slice an N.length cn, .slice at' T.length ct] 29).alloc (.cells #[.int .i64 1, .string ⟨#[97]⟩, .slice none 0 0] 33)).alloc (.cells #[.slice (some ⟨w.heap.size + 1 + 1, 0, none⟩) 1 1, .slice none 0 0] 29)) w' := by
    refine c5.mono ?_
    rintro e w' ⟨u, rfl, _, h2, h3⟩
    obtain ⟨g, cp, rfl, g0, g1⟩ := own_first (h2 rfl)
    exact ⟨g, cp, rfl, g0, g1, h3⟩
  clear c5 hK hP hz hb hzb zN zT lN lT hz0 HG1
  unfold box2 at c5'
  go_enter Try.func3, Try.ntmps3
  go_wp2_with (go_at_call 5; refine c5'.mono ?_; rintro e W2 ⟨g, cp, rfl, g0, g1, hB2⟩; refine Hid.out ?_)
  refine Lib.hid ?_
  have HL2 : Hid (LSt w #[.slice ak L.length ck, .slice ab B.length cb] #[.slice an N.length cn, .slice at' T.length ct] W2) := HL1.out.on hB2
  have s0 := cell_at (i := 0) HL2.out.2.2.1 rfl
  have s1 := cell_at (i := 1) HL2.out.2.2.1 rfl
  have t0 := cell_at (i := 0) HL2.out.2.2.2 rfl
  have t1 := cell_at (i := 1) HL2.out.2.2.2 rfl
  have c6 := conforms_any (HH.out.1.on HL2.out.1) (HH.out.2.on HL2.out.1)
  clear c5' hB2
  by_cases he : inE L B N T = 0
  · have HE : Hid (inE L B N T = 0) := he
    rw [he, errV_0] at c6
    obtain ⟨bc, hbc⟩ : ∃ bc, confB L B N T = bc := ⟨_, rfl⟩
    rw [hbc] at c6
    have HC : Hid (confB L B N T = bc) := hbc
    clear he hbc
    go_wp2_with (go_at_call 6; refine c6.mono ?_; rintro e W3 ⟨rfl, hB3⟩; refine Hid.out ?_)
    refine Lib.hid ?_
    have HL3 : Hid (LSt w #[.slice ak L.length ck, .slice ab B.length cb] #[.slice an N.length cn, .slice at' T.length ct] W3) := HL2.out.on hB3
    clear s0 s1 t0 t1 c6 hB3 g0 g1
    have s0 := cell_at (i := 0) HL3.out.2.2.1 rfl
    have s1 := cell_at (i := 1) HL3.out.2.2.1 rfl
    have c7 := conforms_any (w := W3) (vg := .agg #[.slice none 0 0, .slice none 0 0]) (N := []) (T := []) (HH.out.1.on HL3.out.1) ⟨_, _, rfl, ⟨none, 0, rfl, Nat.le_refl _, .inl rfl⟩, ⟨none, 0, rfl, Nat.le_refl _, .inl rfl⟩, fun n hn => by simp at hn, fun n hn => by simp at hn, Nat.zero_le _, Nat.zero_le _⟩
    rw [(conf_none HE.out).1, (conf_none HE.out).2, errV_0] at c7
    go_wp2_with (go_at_call 6; refine c7.mono ?_; rintro e W4 ⟨rfl, hB4⟩; refine Hid.out ?_)
    refine Lib.hid ?_
    have HL4 : Hid (LSt w #[.slice ak L.length ck, .slice ab B.length cb] #[.slice an N.length cn, .slice at' T.length ct] W4) := HL3.out.on hB4
    have h60 : N.length ≤ 60 := (gErr_parts (inE_parts HE.out).2).1
    clear s0 s1 c7 hB4
    go_wp2
    go_loopw [12, 13] (fun al i wr => ∃ (k : Nat) (a : Int), k ≤ N.length ∧ i = .int .i64 k ∧ al = .int .i64 a ∧ (bc = true → a = 0) ∧ 0 ≤ a ∧ a ≤ (k : Int) * 16 ∧ LSt w #[.slice ak L.length ck, .slice ab B.length cb] #[.slice an N.length cn, .slice at' T.length ct] wr) (fun _ i _ => N.length - (intOf i).toNat)
    case atStart => exact ⟨0, 0, Nat.zero_le _, rfl, rfl, fun _ => rfl, Int.le_refl _, Int.le_refl _, HL4.out⟩
    case round =>
      obtain ⟨k, a, hk, rfl, rfl, ha, ha1, ha2, hLr⟩ := hrel
      have HLr : Hid (LSt w #[.slice ak L.length ck, .slice ab B.length cb] #[.slice an N.length cn, .slice at' T.length ct] wr) := hLr
      have HA : Hid (bc = true → a = 0) := ha
      clear hLr ha
      have s0 := cell_at (i := 0) HLr.out.2.2.1 rfl
      have s1 := cell_at (i := 1) HLr.out.2.2.1 rfl
      have t0 := cell_at (i := 0) HLr.out.2.2.2 rfl
      have hws := HLr.out.2.1
      by_cases hlt : k < N.length
      · obtain ⟨x, hx⟩ : ∃ x, N[k]? = some x := ⟨N[k], by simp [hlt]⟩
        obtain ⟨vn', vt', hv0, hN', hT', zN', _, _, _⟩ := HH.out.2
        obtain ⟨b, off, c, hv, hb, e0, e1, e2, eR⟩ := hN'.at hx
        simp only [Value.agg.injEq, Array.mk.injEq, List.cons.injEq, and_true] at hv0
        obtain ⟨hv1, hv2⟩ := hv0
        rw [hv] at hv1
        injection hv1 with hv3 hv4 hv5
        subst hv3 hv5
        clear hv4 hv hv2 hN' hT'
        have d0 := (HLr.out.1.cell (p := ⟨b, off + k * 3, none⟩) hb).trans e0
        have d1 := (HLr.out.1.cell (p := ⟨b, off + k * 3 + 1, none⟩) hb).trans e1
        have d2 := (HLr.out.1.cell (p := ⟨b, off + k * 3 + 2, none⟩) hb).trans e2
        have hxm := List.mem_of_getElem? hx
        have hone := one_ok HE.out hxm
        have hrig := fun h => conf_each (L := L) (B := B) (N := N) (T := T) h x hxm
        have hok := nds_ok (inE_parts HE.out).2 zN' x hxm
        have hlen := ownF_len (T := fun _ => none) (fun s h => shO_ok (inE_parts HE.out).1 (by obtain ⟨_, _, _, _, _, h, _⟩ := HH.out.1; exact h) (by obtain ⟨_, _, _, _, _, _, _, h⟩ := HH.out.1; exact h) x.kd s h) hok
        have hzx := zN' x hxm
        have hDr : Below wr.heap.size wr wr.drew := b_drew (Below.refl _ _)
        have c7 := nodeOne_any (w := wr.drew) (n := x) ((HH.out.1.on HLr.out.1).on hDr) ((eR.on HLr.out.1).on hDr) hzx
        rw [hone] at c7
        obtain ⟨id, kd, rv, rc⟩ := x
        obtain ⟨av, cv, hav, _⟩ := eR
        simp only at d0 d1 d2 hav hlen hrig c7
        subst hav
        obtain ⟨m, hm⟩ : ∃ m, m = (ownF (shO L B L kd) ⟨id, kd, .slice av rc.length cv, rc⟩ (fun _ => none)).1.length := ⟨_, rfl⟩
        have HC7 : Hid (Calls Try.prog 7 #[.agg #[.slice ak L.length ck, .slice ab B.length cb], .agg #[.int .i64 id, .string kd, .slice av rc.length cv]] wr.drew fun e w' => ∃ ao cp, e = .returned (.tuple #[.slice ao m cp, .nilIface]) ∧ Below wr.drew.heap.size wr.drew w') := by
          refine c7.mono ?_
          rintro e w' ⟨u, rfl, _, h2, h3⟩
          obtain ⟨ao, cp, rfl⟩ := own_slice (h2 rfl)
          exact ⟨ao, cp, by rw [hm]; rfl, h3⟩
        have hm16 : m ≤ 16 := by rw [hm]; exact hlen
        have HM : Hid (bc = true → m = 0) := fun h => by rw [hm, hrig (by rw [HC.out]; exact h)]; rfl
        have HX : Hid (∀ W5, Below wr.drew.heap.size wr.drew W5 → (W5.cell? ⟨w.heap.size, 0, none⟩ = some (.slice ak L.length ck) ∧ W5.cell? ⟨w.heap.size, 1, none⟩ = some (.slice ab B.length cb) ∧ W5.cell? ⟨w.heap.size + 1, 0, none⟩ = some (.slice (some ⟨b, off, none⟩) N.length cn) ∧ W5.cell? ⟨b, off + k * 3, none⟩ = some (.int .i64 id) ∧ W5.cell? ⟨b, off + k * 3 + 1, none⟩ = some (.string kd) ∧ W5.cell? ⟨b, off + k * 3 + 2, none⟩ = some (.slice av rc.length cv)) ∧ LSt w #[.slice ak L.length ck, .slice ab B.length cb] #[.slice (some ⟨b, off, none⟩) N.length cn, .slice at' T.length ct] W5) := fun W5 h5 => by
          have hK5 := Kp.of_below h5
          exact ⟨⟨hK5.2 _ _ s0, hK5.2 _ _ s1, hK5.2 _ _ t0, hK5.2 _ _ d0, hK5.2 _ _ d1, hK5.2 _ _ d2⟩, (HLr.out.on hDr).on h5⟩
        have hk60 : k < 60 := by omega
        have hwi : IntKind.i64.wrap (a + (m : Int)) = a + (m : Int) := by rw [IntKind.wrap_i64]; omega
        clear c7 e0 e1 e2 hx hxm hone hrig hok hlen hzx hDr hm zN'
        go_wp2
        first | (go_region_held_law (fun w' => w'.cell? ⟨w.heap.size, 0, none⟩ = some (.slice ak L.length ck) ∧ w'.cell? ⟨w.heap.size, 1, none⟩ = some (.slice ab B.length cb) ∧ w'.cell? ⟨w.heap.size + 1, 0, none⟩ = some (.slice (some ⟨b, off, none⟩) N.length cn) ∧ w'.cell? ⟨b, off + k * 3, none⟩ = some (.int .i64 id) ∧ w'.cell? ⟨b, off + k * 3 + 1, none⟩ = some (.string kd) ∧ w'.cell? ⟨b, off + k * 3 + 2, none⟩ = some (.slice av rc.length cv)) (go_keep) (first | (go_simp; go_at_call 7; refine HC7.out.mono ?_; rintro e W5 ⟨ao, cp', rfl, hB5⟩; obtain ⟨⟨p0, p1, p2, p3, p4, p5⟩, hL5⟩ := HX.out W5 hB5; have HL5 := Lib.hid hL5; clear hL5))) | fail
        all_goals
          go_wp2
          refine ⟨?_, ?_⟩
          · have hfin : ∃ (k' : Nat) (a' : Int), k' ≤ N.length ∧ (Value.int .i64 ((k : Int) + 1)) = .int .i64 k' ∧ (Value.int .i64 (a + (m : Int))) = .int .i64 a' ∧ (bc = true → a' = 0) ∧ 0 ≤ a' ∧ a' ≤ (k' : Int) * 16 ∧ LSt w #[.slice ak L.length ck, .slice ab B.length cb] #[.slice (some ⟨b, off, none⟩) N.length cn, .slice at' T.length ct] W5 := ⟨k + 1, a + m, hlt, by simp, rfl, fun h => by rw [HA.out h, HM.out h]; rfl, by omega, by omega, HL5.out⟩
            first | exact hfin | ((repeat apply Exists.intro); refine ⟨?_, rfl⟩; exact hfin)
          · simp [intOf]
            try omega
      · have HF : Hid (Below w.heap.size w wr) := HLr.out.1
        obtain rfl : k = N.length := by omega
        clear hlt
        cases bc
        · go_wp2
          go_ret
          exact ⟨rfl, HF.out⟩
        · obtain rfl := HA.out rfl
          go_wp2
          go_ret
          exact ⟨rfl, HF.out⟩
  · rw [errV_ne he] at c6
    clear he
    go_wp2_with (go_at_call 6; refine c6.mono ?_; rintro e W3 ⟨rfl, hB3⟩)
    go_ret
    exact ⟨rfl, (HL2.out.on hB3).1⟩
end Go.Proofs.Ytjjnfnlkfojehaa
