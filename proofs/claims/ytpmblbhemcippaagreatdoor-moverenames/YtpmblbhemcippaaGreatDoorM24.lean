/-
  The walk of change.ownField.
-/
import Derived.Test.YtpmblbhemcippaaGreatDoorM23
import Derived.Test.YtpmblbhemcippaaGreatDoorM14
namespace Go.Proofs.YtpmblbhemcippaaGreatDoor
open Go.RowKit
set_option linter.unusedVariables false
set_option linter.unusedSimpArgs false

theorem fdsAt_eq {L : List Kd} {n : Nm} {j : Nat} {q : Kd} (hat : nmAt L n = j) (hq : L[j]? = some q) : fdsAt L n = q.fs := by unfold fdsAt; rw [hat, hq]
theorem Good.srt {L : List Kd} (h : Good L) : ∀ k ∈ L, Srt k.fs ∧ k.fs.length ≤ 8 := fun k hk => by
  obtain ⟨i, hi⟩ := List.getElem?_of_mem hk
  obtain ⟨_, _, ⟨_, h8⟩, _, hf, _⟩ := kErr_zero (h i k hi)
  refine ⟨?_, h8⟩
  have key : ∀ (l : List Fd) (o : Option Fd), fChk o l = 0 → Srt l ∧ ∀ q, o = some q → ∀ x ∈ l, Op.bytesLess q.nm x.nm = true := by
    intro l
    induction l with
    | nil => intro o _; exact ⟨srt_nil, fun q _ x hx => by cases hx⟩
    | cons f r ih =>
      intro o ho
      unfold fChk at ho
      split at ho
      · rename_i hb
        obtain ⟨h1, h2⟩ := ih (some f) ho
        refine ⟨List.pairwise_cons.2 ⟨fun x hx => h2 f rfl x hx, h1⟩, fun q hq x hx => ?_⟩
        subst hq
        have hqf : Op.bytesLess q.nm f.nm = true := by
          unfold fBad at hb
          split at hb
          · split at hb
            · split at hb
              · exact absurd hb (by decide)
              · simp only at hb
                split at hb
                · exact absurd hb (by decide)
                · rename_i hn
                  have hn' : (Op.bytesLess f.nm q.nm || f.nm == q.nm) = false := by simpa using hn
                  obtain ⟨a1, a2⟩ := Bool.or_eq_false_iff.1 hn'
                  exact less_tri a1 (by simpa using a2)
            · exact absurd hb (by decide)
          · rename_i hz; exact absurd hb hz
        rcases List.mem_cons.1 hx with rfl | hx
        · exact hqf
        · exact less_trans hqf (h2 f rfl x hx)
      · rename_i hb; exact absurd ho hb
  exact (key k.fs none hf).1
set_option maxHeartbeats 4000000 in
set_option maxRecDepth 100000 in
theorem ownField_none {w : World} {base p : Nat} {L : List Kd} {B : List Bd} (h : OSc w base p L B) (hn : L.length ≤ 12) (c : Ch) (hc : ChIs w c) (hx : idxK c.nm L 0 = -1) :
    Calls Tryz.prog 113 #[.pointer (some ⟨p, 0, none⟩), c.one] w fun e w' => e = .returned (.tuple #[.pointer none, .int .i64 0, .iface 71 (.int .i64 5)]) ∧ Below w.heap.size w w' := by
  obtain ⟨vk, vb, hp, hX, hK, hA, hT⟩ := h
  obtain ⟨a, cp, rfl⟩ := own_slice hK.1
  obtain ⟨wh, nm, ⟨kn, ko, kf, vo, vf⟩, ⟨bn, bf, bt, mn, mx⟩, ⟨fn, ft, fm, fk⟩, vt, vn, vs, tn⟩ := c
  obtain ⟨ao, lo1, co, q1⟩ := hc.1.sl
  obtain ⟨af, lf1, cf, q2⟩ := hc.2.sl
  simp only at q1 q2 hx ⊢
  subst q1 q2
  obtain ⟨W0, hW0⟩ : ∃ W0, W0 = w.alloc (.cells #[.int .i64 wh, .string (bs nm), .string (bs kn), .slice ao lo1 co, .slice af lf1 cf, .string (bs bn), .string (bs bf), .string (bs bt), .int .i64 mn, .int .i64 mx, .string (bs fn), .int .i64 ft, .bool fm, .bool fk, .int .i64 vt, .int .i64 vn, .string (bs vs), .string (bs tn)] 38) := ⟨_, rfl⟩
  have hB0 : Below w.heap.size w W0 := by rw [hW0]; exact b_alloc (Below.refl _ _) _
  have n0 := heap_alloc_new w (.cells #[.int .i64 wh, .string (bs nm), .string (bs kn), .slice ao lo1 co, .slice af lf1 cf, .string (bs bn), .string (bs bf), .string (bs bt), .int .i64 mn, .int .i64 mx, .string (bs fn), .int .i64 ft, .bool fm, .bool fk, .int .i64 vt, .int .i64 vn, .string (bs vs), .string (bs tn)] 38)
  rw [← hW0] at n0
  have hX0 := (hB0.block p (Array.getElem?_eq_some_iff.1 hX).1).trans hX
  have c0 : W0.cell? ⟨p, 0, none⟩ = some (.slice a L.length cp) := cell_at hX0 rfl
  have c1 : W0.cell? ⟨w.heap.size, 1, none⟩ = some (.string (bs nm)) := cell_at n0 rfl
  have cc : ∀ W, Below W0.heap.size W0 W → Calls Tryz.prog 105 #[.slice a L.length cp, .string (bs nm)] W fun e w' => e = .returned (.int .i64 (-1)) ∧ Below W.heap.size W w' := fun W hb => by
    have := findKind_any ((hK.isK.on hB0).on hb) hn nm
    rw [hx] at this
    exact this
  have HC := Lib.hid cc
  have HB0 := Lib.hid hB0
  clear hT hK hA hX hx hX0 cc n0 hB0
  go_enter Tryz.func113, Tryz.ntmps113
  go_upto_region 1 with fail
  rw [← hW0]
  clear hW0
  go_cut [7] (fun s wx => s = .int .i64 (-1) ∧ Below W0.heap.size W0 wx)
  case first =>
    go_region_with (go_at_call 105; refine (HC.out _ (b_drewK (Below.refl _ _) 1)).mono ?_; rintro e W2 ⟨rfl, hB2⟩)
    all_goals go_wp2
    all_goals go_meet
    all_goals exact ⟨rfl, on1K (b_drewK (Below.refl _ _) 1) hB2 (Nat.le_refl _)⟩
  case rest =>
    obtain ⟨rfl, hB⟩ := hcut
    go_wp2
    go_ret3
    exact ⟨rfl, on1K HB0.out hB (Nat.le_refl _)⟩
def OwR (r : Bool) (gk j n : Nat) : Value := if r = true then .tuple #[.pointer (some ⟨gk, j * 3, none⟩), .int .i64 n, .nilIface] else .tuple #[.pointer none, .int .i64 0, .iface 71 (.int .i64 5)]
set_option maxHeartbeats 8000000 in
set_option maxRecDepth 100000 in
theorem ownField_some {w : World} {base p gk cp : Nat} {L : List Kd} {B : List Bd} {vb : Value} (hp : base ≤ p) (hX : w.heap[p]? = some (.cells #[.slice (some ⟨gk, 0, none⟩) L.length cp, vb] 46 (0, 0))) (hK : OwnKs w base (.slice (some ⟨gk, 0, none⟩) L.length cp) L) (hn : L.length ≤ 12) (hG : Good L) (c : Ch) (hc : ChIs w c) {j : Nat} {q : Kd} (hj : idxK c.nm L 0 = (j : Int)) (hq : L[j]? = some q) :
    Calls Tryz.prog 113 #[.pointer (some ⟨p, 0, none⟩), c.one] w fun e w' => e = .returned (OwR (fnd c.fd.nm q.fs) gk j (lo c.fd.nm q.fs)) ∧ Below w.heap.size w w' := by
  obtain ⟨wh, nm, ⟨kn, ko, kf, vo, vf⟩, ⟨bn, bf, bt, mn, mx⟩, ⟨fn, ft, fm, fk⟩, vt, vn, vs, tn⟩ := c
  obtain ⟨ao, lo1, co, q1⟩ := hc.1.sl
  obtain ⟨af, lf1, cf, q2⟩ := hc.2.sl
  simp only at q1 q2 hj ⊢
  subst q1 q2
  obtain ⟨W0, hW0⟩ : ∃ W0, W0 = w.alloc (.cells #[.int .i64 wh, .string (bs nm), .string (bs kn), .slice ao lo1 co, .slice af lf1 cf, .string (bs bn), .string (bs bf), .string (bs bt), .int .i64 mn, .int .i64 mx, .string (bs fn), .int .i64 ft, .bool fm, .bool fk, .int .i64 vt, .int .i64 vn, .string (bs vs), .string (bs tn)] 38) := ⟨_, rfl⟩
  have hB0 : Below w.heap.size w W0 := by rw [hW0]; exact b_alloc (Below.refl _ _) _
  have n0 := heap_alloc_new w (.cells #[.int .i64 wh, .string (bs nm), .string (bs kn), .slice ao lo1 co, .slice af lf1 cf, .string (bs bn), .string (bs bf), .string (bs bt), .int .i64 mn, .int .i64 mx, .string (bs fn), .int .i64 ft, .bool fm, .bool fk, .int .i64 vt, .int .i64 vn, .string (bs vs), .string (bs tn)] 38)
  rw [← hW0] at n0
  have hX0 := (hB0.block p (Array.getElem?_eq_some_iff.1 hX).1).trans hX
  have hjl := (List.getElem?_eq_some_iff.1 hq).1
  have hwl : w.heap.size < W0.heap.size := by rw [hW0]; simp
  have hpl : p < W0.heap.size := (Array.getElem?_eq_some_iff.1 hX0).1
  have hgl : gk < W0.heap.size := Nat.lt_of_lt_of_le (hK.1.lt gk rfl).2 hB0.size
  have c0 : W0.cell? ⟨p, 0, none⟩ = some (.slice (some ⟨gk, 0, none⟩) L.length cp) := cell_at hX0 rfl
  have c1 : W0.cell? ⟨w.heap.size, 1, none⟩ = some (.string (bs nm)) := cell_at n0 rfl
  have cc : ∀ W, Below W0.heap.size W0 W → Calls Tryz.prog 105 #[.slice (some ⟨gk, 0, none⟩) L.length cp, .string (bs nm)] W fun e w' => e = .returned (.int .i64 (j : Int)) ∧ Below W.heap.size W w' := fun W hb => by
    have := findKind_any ((hK.isK.on hB0).on hb) hn nm
    rw [hj] at this
    exact this
  have hF := (hK.parts q (List.mem_of_getElem? hq)).2
  obtain ⟨aq, lq, cq, eq1⟩ := hF.sl
  have cf' : ∀ W, Below W0.heap.size W0 W → Calls Tryz.prog 110 #[.slice aq lq cq, .string (bs fn)] W fun e w' => e = .returned (.tuple #[.int .i64 (lo fn q.fs), .bool (fnd fn q.fs)]) ∧ Below W.heap.size W w' := fun W hb => by
    have hs := hG.srt q (List.mem_of_getElem? hq)
    have := findField_any ((hF.on hB0).on hb) hs.1 (by omega) fn
    rw [eq1] at this
    exact this
  have HX : Hid (∀ W, Below W0.heap.size W0 W → W.cell? ⟨p, 0, none⟩ = some (.slice (some ⟨gk, 0, none⟩) L.length cp) ∧ W.cell? ⟨gk, j * 3 + 2, none⟩ = some (.slice aq lq cq) ∧ W.cell? ⟨w.heap.size, 10, none⟩ = some (.string (bs fn))) := fun W hb => by
    refine ⟨cell_at ((hb.block p hpl).trans hX0) rfl, ?_, cell_at ((hb.block _ hwl).trans n0) rfl⟩
    have h1 := World.ownsRow.cells (own_kt (own_kt hK.1 (.of_below hB0)) (.of_below hb)) (g := gk) rfl (j * 3 + 2) q.vf ((flatK kd_len L j q 2 hq (by omega)).trans rfl)
    rw [Addr.add_lit, Nat.zero_add, eq1] at h1
    exact h1
  have HC := Lib.hid cc
  have HCf := Lib.hid cf'
  have HB0 := Lib.hid hB0
  have hjn : ¬ (j : Int) < 0 := by omega
  have hji : (j : Int) < (L.length : Int) := by omega
  have hlo : lo fn q.fs ≤ 8 := Nat.le_trans (lo_le _ _) (hG.srt q (List.mem_of_getElem? hq)).2
  generalize lo fn q.fs = m at *
  generalize fnd fn q.fs = r at *
  clear hK hX hX0 cc n0 hB0 hj hq hF cf' hG
  go_enter Tryz.func113, Tryz.ntmps113
  go_upto_region 1 with fail
  rw [← hW0]
  clear hW0
  go_cut [7] (fun s wx => s = .int .i64 (j : Int) ∧ Below W0.heap.size W0 wx)
  case first =>
    go_region_with (go_at_call 105; refine (HC.out _ (b_drewK (Below.refl _ _) 1)).mono ?_; rintro e W2 ⟨rfl, hB2⟩)
    all_goals go_wp2
    all_goals go_meet
    all_goals exact ⟨rfl, on1K (b_drewK (Below.refl _ _) 1) hB2 (Nat.le_refl _)⟩
  case rest =>
    obtain ⟨rfl, hB⟩ := hcut
    obtain ⟨d0, d1, d2⟩ := HX.out wc hB
    go_upto_region 4 with fail
    go_cut [5, 8] (fun s t wx => s = .int .i64 (m : Int) ∧ t = .bool r ∧ Below W0.heap.size W0 wx)
    case first =>
      go_region_with (go_at_call 110; refine (HCf.out _ (b_drewK hB 1)).mono ?_; rintro e W2 ⟨rfl, hB2⟩)
      all_goals go_wp2
      all_goals go_meet
      all_goals exact ⟨rfl, rfl, on1K (b_drewK hB 1) hB2 (Nat.le_refl _)⟩
    case rest =>
      obtain ⟨rfl, rfl, hB3⟩ := hcut
      obtain ⟨g0, g1, g2⟩ := HX.out _ hB3
      cases r
      · go_wp2
        go_ret3
        exact ⟨rfl, on1K HB0.out hB3 (Nat.le_refl _)⟩
      · go_wp2
        go_ret3
        exact ⟨rfl, on1K HB0.out hB3 (Nat.le_refl _)⟩
end Go.Proofs.YtpmblbhemcippaaGreatDoor

/-
  The walks of slices.Delete of one element: of kinds, of fields and of bonds.
-/
namespace Go.Proofs.YtpmblbhemcippaaGreatDoor
open Go.RowKit
set_option linter.unusedVariables false
set_option linter.unusedSimpArgs false

theorem zeroF_one (n : Nat) : ∀ u ∈ (Builtin.zeroCells #[.string ⟨#[]⟩, .int .i64 0, .bool false, .bool false] n).toList, u.oneCell' = true := by
  intro u hu
  simp [Builtin.zeroCells] at hu
  obtain ⟨i, _, rfl⟩ := hu
  have h3 : i % 4 = 0 ∨ i % 4 = 1 ∨ i % 4 = 2 ∨ i % 4 = 3 := by omega
  rcases h3 with h | h | h | h <;> simp [h, Value.oneCell']
set_option maxHeartbeats 2000000 in
set_option maxRecDepth 100000 in
theorem deleteF_row {w : World} {g cap i m : Nat} {cur : Array Value} {xs ys zs : List Value} (hg : w.heap[g]? = some (.cells cur 28 (0, 0))) (hs : cur.size = cap * 4) (hcm : cap ≤ maxLen) (hnc : i + 1 + m ≤ cap)
    (ht : cur.toList.take ((i + 1 + m) * 4) = xs ++ ys ++ zs) (hx : xs.length = i * 4) (hy : ys.length = 4) (hz : zs.length = m * 4) (h1 : ∀ u ∈ zs, u.oneCell' = true) (hn : i + 1 + m ≤ 1000) :
    Calls Tryz.prog 114 #[.slice (some ⟨g, 0, none⟩) (i + 1 + m) cap, .int .i64 i, .int .i64 ((i : Int) + 1)] w fun e w' => e = .returned (.slice (some ⟨g, 0, none⟩) (i + m) cap) ∧ ∃ row : List Value, w'.heap[g]? = some (.cells row.toArray 28 (0, 0)) ∧ row.length = cap * 4 ∧ row.take ((i + m) * 4) = xs ++ zs ∧ w.grownBy w' (some g) := by
  obtain ⟨i0, hi0, hz0, hz1, hz2⟩ := info_parts infoFdI
  have hcl : cur.toList.length = cap * 4 := by simpa using hs
  have hgl : g < w.heap.size := (Array.getElem?_eq_some_iff.1 hg).1
  have hcur : cur.toList = xs ++ ys ++ zs ++ cur.toList.drop ((i + 1 + m) * 4) := by rw [← ht, List.take_append_drop]
  have hxt : cur.toList.take (i * 4) = xs := by rw [hcur]; simp [List.take_append, hx]
  have hzc : ∀ j u, zs[j]? = some u → cur.toList[(i + 1) * 4 + j]? = some u := fun j u hu => by
    have hj := (List.getElem?_eq_some_iff.1 hu).1
    have : (cur.toList.take ((i + 1 + m) * 4))[(i + 1) * 4 + j]? = some u := by
      rw [ht, List.getElem?_append_right (by simp; omega)]
      simpa [hx, hy, show (i + 1) * 4 + j - (i * 4 + 4) = j by omega] using hu
    rw [List.getElem?_take] at this
    split at this
    · exact this
    · cases this
  obtain ⟨R1, hR1⟩ : ∃ R1, R1 = cur.toList.take (i * 4) ++ zs ++ cur.toList.drop (i * 4 + zs.length) := ⟨_, rfl⟩
  have hR1l : R1.length = cap * 4 := by rw [hR1]; simp [hz, hs]; omega
  have hR1t : R1.take ((i + m) * 4) = xs ++ zs := by rw [hR1, hxt, List.take_append_of_le_length (by simp [hx, hz]; omega), List.take_of_length_le (by simp [hx, hz]; omega)]
  obtain ⟨W1, hW1⟩ : ∃ W1, W1 = w.drew.setRow g R1.toArray := ⟨_, rfl⟩
  have happ : ∀ ty (A : Option Addr) c, (A = some ⟨g, (i + 1) * 4, none⟩ ∨ (m = 0 ∧ ∃ a, A = some a)) → (Builtin.append_ #[30, 30] ty #[.slice (some ⟨g, 0, none⟩) i cap, .slice A m c]).run Tryz.prog w.drew = .ok (.slice (some ⟨g, 0, none⟩) (i + m) cap) W1 := fun ty A c hA => by
    obtain ⟨a, rfl, ha⟩ : ∃ a, A = some a ∧ ∀ j u, zs[j]? = some u → w.drew.cell? (a.add j) = some u := by
      rcases hA with rfl | ⟨rfl, a, rfl⟩
      · refine ⟨_, rfl, fun j u hu => ?_⟩
        rw [Addr.add_lit, cell_of_row w.drew g _ cur 28 (0, 0) hg]
        simpa using hzc j u hu
      · refine ⟨a, rfl, fun j u hu => ?_⟩
        have : zs = [] := List.eq_nil_of_length_eq_zero (by omega)
        rw [this] at hu; simp at hu
    have := run_append_room (P := Tryz.prog) w.drew 30 ty 28 i0 Tryz.underlying30 hi0 g i cap cur hg a m c zs (by rw [hz1]; exact hz) ha h1 (by omega) (by rw [hz1, hz]; omega)
    rw [hz1] at this
    rw [hW1, hR1]
    exact this
  have hg1 : W1.heap[g]? = some (.cells R1.toArray 28 (0, 0)) := by rw [hW1]; exact setRow_heap w.drew g cur _ 28 _ hg
  obtain ⟨R2, hR2⟩ : ∃ R2, R2 = R1.take ((i + m) * 4) ++ (Builtin.zeroCells #[.string ⟨#[]⟩, .int .i64 0, .bool false, .bool false] 1).toList ++ R1.drop ((i + m) * 4 + 1 * 4) := ⟨_, rfl⟩
  have hz4 : (Builtin.zeroCells #[.string ⟨#[]⟩, .int .i64 0, .bool false, .bool false] 1).toList.length = 4 := by simp [Builtin.zeroCells]
  have hR2l : R2.length = cap * 4 := by rw [hR2]; simp [hz4, hR1l]; omega
  have hR2t : R2.take ((i + m) * 4) = xs ++ zs := by rw [hR2, List.append_assoc, List.take_append_of_le_length (by simp [hR1l]; omega), List.take_of_length_le (List.length_take_le _ _), hR1t]
  obtain ⟨W2, hW2⟩ : ∃ W2, W2 = W1.setRow g R2.toArray := ⟨_, rfl⟩
  have hclr : ∀ ty c, (Builtin.clear_ #[30] ty #[.slice (some ⟨g, (i + m) * 4, none⟩) 1 c]).run Tryz.prog W1 = .ok (.tuple #[]) W2 := fun ty c => by
    have := run_clear_row W1 30 28 ty (.agg #[.string ⟨#[]⟩, .int .i64 0, .bool false, .bool false]) Tryz.underlying30 Tryz.zeroValue28 g ((i + m) * 4) 1 c (by omega) R1.toArray hg1 (by simp [Value.cells, hR1l]; omega) (zeroF_one 1)
    rw [hW2, hR2]
    exact this
  have HE : Hid (W2.heap[g]? = some (.cells R2.toArray 28 (0, 0)) ∧ R2.length = cap * 4 ∧ R2.take ((i + m) * 4) = xs ++ zs ∧ w.grownBy W2 (some g)) := by
    refine ⟨by rw [hW2]; exact setRow_heap W1 g _ _ 28 _ hg1, hR2l, hR2t, ?_⟩
    rw [hW2, hW1]
    exact grown_trans (b := w.drew) ⟨rfl, rfl, rfl, Nat.le_refl _, fun _ _ _ => rfl⟩ (grown_trans (setRow_grown w.drew g _) (setRow_grown _ g _))
  have HA : Hid (∀ ty (A : Option Addr) c, (A = some ⟨g, (i + 1) * 4, none⟩ ∨ (m = 0 ∧ ∃ a, A = some a)) → (Builtin.append_ #[30, 30] ty #[.slice (some ⟨g, 0, none⟩) i cap, .slice A m c]).run Tryz.prog w.drew = .ok (.slice (some ⟨g, 0, none⟩) (i + m) cap) W1) := happ
  unfold maxLen at hcm
  clear hg ht hzc hcur hR1 hR1l hR1t hW1 hg1 hR2 hz4 hR2l hR2t hW2 hxt hcl hgl happ hi0 hz0 hz1 hz2 hx hy hz h1 hs
  have hii : IntKind.i64.wrap ((i : Int) + 1) = (i : Int) + 1 := by rw [IntKind.wrap_i64]; omega
  have hi1 : (i : Int) + 1 ≤ (i : Int) + 1 + (m : Int) := by omega
  have hi2 : (i : Int) + 1 + (m : Int) ≤ (cap : Int) := by omega
  have hi3 : (i : Int) ≤ (cap : Int) := by omega
  have hi4 : (i : Int) + 1 ≤ (cap : Int) := by omega
  have htn : ((i : Int) + 1).toNat = i + 1 := by omega
  have hne : ¬ (i : Int) = (i : Int) + 1 := by omega
  have hp0 : (0 : Int) ≤ (i : Int) + 1 := by omega
  have hp1 : (i : Int) ≤ (i : Int) + 1 := by omega
  have hs1 : ((i + 1 + m : Nat) : Int) - ((i + m : Nat) : Int) = 1 := by omega
  have hs2 : i + 1 + m - (i + m) = 1 := by omega
  have hs3 : i + 1 + m - (i + 1) = m := by omega
  have hc2 : ¬ cap = i + m := by omega
  by_cases hcap : cap = i + 1
  · obtain rfl : m = 0 := by omega
    subst hcap
    simp only [Nat.add_zero] at *
    go_enter Tryz.func114, Tryz.ntmps114
    go_wp2
    go_region_law (refine step_append_E rfl (.tmp 22) (.tmp 25) 30 rfl (.slice (some ⟨g, 0, none⟩) i (i + 1)) (.slice (some ⟨g, 0, none⟩) 0 (i + 1 - (i + 1))) (by simp [Act.eval, Act.put]) (by simp [Act.eval, Act.put]) (R := fun v' w' => v' = .slice (some ⟨g, 0, none⟩) i (i + 1) ∧ w' = W1) ⟨_, _, HA.out _ _ _ (.inr ⟨trivial, _, rfl⟩), rfl, rfl⟩ ?_; rintro v1 w1 ⟨rfl, rfl⟩)
    all_goals
      go_wp2
      go_ret
      exact ⟨rfl, R2, HE.out⟩
  · have hne2 : ¬ cap = i + 1 := hcap
    go_enter Tryz.func114, Tryz.ntmps114
    go_wp2
    go_region_law (refine step_append_E rfl (.tmp 22) (.tmp 25) 30 rfl (.slice (some ⟨g, 0, none⟩) i cap) (.slice (some ⟨g, (i + 1) * 4, none⟩) m (cap - (i + 1))) (by simp [Act.eval, Act.put]) (by simp [Act.eval, Act.put]) (R := fun v' w' => v' = .slice (some ⟨g, 0, none⟩) (i + m) cap ∧ w' = W1) ⟨_, _, HA.out _ _ _ (.inl rfl), rfl, rfl⟩ ?_; rintro v1 w1 ⟨rfl, rfl⟩)
    all_goals
      go_wp2
      go_ret
      exact ⟨rfl, R2, HE.out⟩
theorem deleteF_any {w : World} {base : Nat} {v : Value} {N : List Fd} (h : w.ownsRow base 28 4 v N.length (cellsF N)) (h1 : ∀ u ∈ cellsF N, u.oneCell' = true) (hn : N.length ≤ 1000) (i : Nat) (hi : i < N.length) :
    Calls Tryz.prog 114 #[v, .int .i64 i, .int .i64 ((i : Int) + 1)] w fun e w' => ∃ v', e = .returned v' ∧ w'.ownsRow base 28 4 v' (N.eraseIdx i).length (cellsF (N.eraseIdx i)) ∧ w.grownBy w' v.ownBlock ∧ v'.ownBlock = v.ownBlock := by
  rcases h.2 with ⟨rfl, h0⟩ | ⟨g, cap, cur, rfl, hb, hg, hle, hcm, hcs, ht⟩
  · omega
  · obtain ⟨m, hm⟩ : ∃ m, N.length = i + 1 + m := ⟨N.length - (i + 1), by omega⟩
    have hsp : cellsF N = cellsF (N.take i) ++ (N[i]).cells ++ cellsF (N.drop (i + 1)) := by
      have e : N = N.take i ++ N[i] :: N.drop (i + 1) := by rw [← List.drop_eq_getElem_cons hi, List.take_append_drop]
      refine (congrArg cellsF e).trans ?_
      simp only [cellsF, List.flatMap_append, List.flatMap_cons, List.append_assoc]
    have hx : (cellsF (N.take i)).length = i * 4 := by unfold cellsF; rw [flatK_len fd_len, List.length_take_of_le (by omega)]
    have hz : (cellsF (N.drop (i + 1))).length = m * 4 := by unfold cellsF; rw [flatK_len fd_len, List.length_drop, hm]; congr 1; omega
    rw [hm] at hle ht ⊢
    rw [hsp] at ht
    refine (deleteF_row hg hcs hcm hle ht hx (fd_len _) hz (fun u hu => h1 u (by rw [hsp]; simp [hu])) (by omega)).mono ?_
    rintro e w' ⟨rfl, row, r1, r2, r3, r4⟩
    have hel : (N.eraseIdx i).length = i + m := by rw [List.length_eraseIdx_of_lt hi, hm]; omega
    have hec : cellsF (N.eraseIdx i) = cellsF (N.take i) ++ cellsF (N.drop (i + 1)) := by rw [List.eraseIdx_eq_take_drop_succ]; simp [cellsF]
    refine ⟨_, rfl, ?_, r4, rfl⟩
    rw [hel, hec]
    refine ⟨by rw [List.length_append, hx, hz]; omega, .inr ⟨g, cap, row.toArray, rfl, hb, r1, by omega, hcm, by simpa using r2, by simpa using r3⟩⟩
end Go.Proofs.YtpmblbhemcippaaGreatDoor

/-
  The walk of change.dropField.
-/
namespace Go.Proofs.YtpmblbhemcippaaGreatDoor
open Go.RowKit
set_option linter.unusedVariables false
set_option linter.unusedSimpArgs false

theorem info37 : (Tryz.prog.info? 38).map (fun i => i.size) = some 18 := by kernel_rfl
theorem map_set_kq (L : List Kd) (j : Nat) (k k' : Kd) (h : kq3 k = kq3 k') : (L.set j k).map kq3 = (L.set j k').map kq3 := by rw [List.map_set, List.map_set, h]
theorem setFs_kq {L : List Kd} {n : Nm} {j : Nat} {q : Kd} (hat : nmAt L n = j) (hq : L[j]? = some q) (g : List Fd) (v : Value) : (L.set j ⟨q.nm, q.of, g, q.vo, v⟩).map kq3 = (setFs L n g).map kq3 := by
  unfold setFs
  rw [hat, hq]
  exact map_set_kq L j _ _ rfl
theorem fnd_lt {n : Nm} {l : List Fd} (h : fnd n l = true) : lo n l < l.length := by
  unfold fnd at h
  split at h
  · rename_i g hg; exact (List.getElem?_eq_some_iff.1 hg).1
  · cases h
theorem OwnKs.at {w : World} {base : Nat} {v : Value} {L : List Kd} (h : OwnKs w base v L) (h0 : 0 < L.length) : ∃ gk cp, v = .slice (some ⟨gk, 0, none⟩) L.length cp := by
  rcases h.1.2 with ⟨rfl, h1⟩ | ⟨g, cap, cur, rfl, _⟩
  · omega
  · exact ⟨g, cap, rfl⟩
theorem OwnKs.cell2 {w : World} {base gk cp : Nat} {L : List Kd} (h : OwnKs w base (.slice (some ⟨gk, 0, none⟩) L.length cp) L) {j : Nat} {q : Kd} (hq : L[j]? = some q) : w.cell? ⟨gk, j * 3 + 2, none⟩ = some q.vf := by
  have h1 := World.ownsRow.cells h.1 (g := gk) rfl (j * 3 + 2) q.vf ((flatK kd_len L j q 2 hq (by omega)).trans rfl)
  rw [Addr.add_lit, Nat.zero_add] at h1
  exact h1

set_option maxHeartbeats 4000000 in
set_option maxRecDepth 100000 in
theorem dropField_no {w : World} {base p : Nat} {L : List Kd} {B : List Bd} (h : OSc w base p L B) (hn : L.length ≤ 12) (hG : Good L) (c : Ch) (hc : ChIs w c) (hx : e4 L c.nm c.fd.nm = 5) :
    Calls Tryz.prog 74 #[.pointer (some ⟨p, 0, none⟩), c.one] w fun e w' => e = .returned (errV 5) ∧ Below w.heap.size w w' := by
  obtain ⟨wh, nm, ⟨kn, ko, kf, vo, vf⟩, ⟨bn, bf, bt, mn, mx⟩, ⟨fn, ft, fm, fk⟩, vt, vn, vs, tn⟩ := c
  obtain ⟨ao, lo1, co, q1⟩ := hc.1.sl
  obtain ⟨af, lf1, cf, q2⟩ := hc.2.sl
  simp only at q1 q2 hx ⊢
  subst q1 q2
  obtain ⟨W0, hW0⟩ : ∃ W0, W0 = w.alloc (.cells #[.int .i64 wh, .string (bs nm), .string (bs kn), .slice ao lo1 co, .slice af lf1 cf, .string (bs bn), .string (bs bf), .string (bs bt), .int .i64 mn, .int .i64 mx, .string (bs fn), .int .i64 ft, .bool fm, .bool fk, .int .i64 vt, .int .i64 vn, .string (bs vs), .string (bs tn)] 38) := ⟨_, rfl⟩
  have hB0 : Below w.heap.size w W0 := by rw [hW0]; exact b_alloc (Below.refl _ _) _
  have n0 := heap_alloc_new w (.cells #[.int .i64 wh, .string (bs nm), .string (bs kn), .slice ao lo1 co, .slice af lf1 cf, .string (bs bn), .string (bs bf), .string (bs bt), .int .i64 mn, .int .i64 mx, .string (bs fn), .int .i64 ft, .bool fm, .bool fk, .int .i64 vt, .int .i64 vn, .string (bs vs), .string (bs tn)] 38)
  rw [← hW0] at n0
  have cow : Calls Tryz.prog 113 #[.pointer (some ⟨p, 0, none⟩), (⟨wh, nm, ⟨kn, ko, kf, .slice ao lo1 co, .slice af lf1 cf⟩, ⟨bn, bf, bt, mn, mx⟩, ⟨fn, ft, fm, fk⟩, vt, vn, vs, tn⟩ : Ch).one] W0 fun e w' => e = .returned (.tuple #[.pointer none, .int .i64 0, .iface 71 (.int .i64 5)]) ∧ Below W0.heap.size W0 w' := by
    by_cases hi : idxK nm L 0 = -1
    · exact ownField_none (h.on hB0) hn _ (hc.on hB0) hi
    · obtain ⟨j, q, hj, hat, hq, _⟩ := nmAt_has hi
      have hf : fnd fn q.fs = false := by
        unfold e4 at hx
        rw [if_neg hi, fdsAt_eq hat hq] at hx
        cases hb : fnd fn q.fs
        · rfl
        · rw [hb] at hx; exact absurd hx (by decide)
      obtain ⟨vk, vb, hp, hX, hK, hA, hT⟩ := h.on hB0
      obtain ⟨gk, cp, rfl⟩ := hK.at (Nat.lt_of_le_of_lt (Nat.zero_le _) (List.getElem?_eq_some_iff.1 hq).1)
      have := ownField_some (B := B) hp hX hK hn hG ⟨wh, nm, ⟨kn, ko, kf, .slice ao lo1 co, .slice af lf1 cf⟩, ⟨bn, bf, bt, mn, mx⟩, ⟨fn, ft, fm, fk⟩, vt, vn, vs, tn⟩ (hc.on hB0) hj hq
      simp only [hf] at this
      exact this
  dsimp only [Ch.one] at cow
  have HB0 := Lib.hid hB0
  have HN := Lib.hid n0
  clear h hx n0 hB0 hG
  go_enter Tryz.func74, Tryz.ntmps74
  go_upto_region 1 with fail
  rw [← hW0]
  clear hW0
  go_wp2_with (first | (refine wpList_load_row rfl 38 (.tmp 3) rfl w.heap.size rfl 38 _ (0, 0) _ HN.out Tryz.underlying38 rfl info37 ?_) | (go_at_call 113; refine cow.mono ?_; rintro e w1 ⟨rfl, hB1⟩))
  go_ret
  exact ⟨rfl, on1K HB0.out hB1 (Nat.le_refl _)⟩
set_option maxHeartbeats 8000000 in
set_option maxRecDepth 100000 in
theorem dropField_yes {w : World} {base p : Nat} {L : List Kd} {B : List Bd} (h : OSc w base p L B) (hbase : base ≤ w.heap.size) (hn : L.length ≤ 12) (hG : Good L) (c : Ch) (hc : ChIs w c) (hx : e4 L c.nm c.fd.nm = 0) :
    Calls Tryz.prog 74 #[.pointer (some ⟨p, 0, none⟩), c.one] w fun e w' => e = .returned (errV 0) ∧ (∃ M, OSc w' base p M B ∧ M.map kq3 = (setFs L c.nm ((fdsAt L c.nm).eraseIdx (lo c.fd.nm (fdsAt L c.nm)))).map kq3) ∧ Below base w w' := by
  obtain ⟨wh, nm, ⟨kn, ko, kf, vo, vf⟩, ⟨bn, bf, bt, mn, mx⟩, ⟨fn, ft, fm, fk⟩, vt, vn, vs, tn⟩ := c
  obtain ⟨ao, lo1, co, q1⟩ := hc.1.sl
  obtain ⟨af, lf1, cf, q2⟩ := hc.2.sl
  simp only at q1 q2 hx ⊢
  subst q1 q2
  obtain ⟨W0, hW0⟩ : ∃ W0, W0 = w.alloc (.cells #[.int .i64 wh, .string (bs nm), .string (bs kn), .slice ao lo1 co, .slice af lf1 cf, .string (bs bn), .string (bs bf), .string (bs bt), .int .i64 mn, .int .i64 mx, .string (bs fn), .int .i64 ft, .bool fm, .bool fk, .int .i64 vt, .int .i64 vn, .string (bs vs), .string (bs tn)] 38) := ⟨_, rfl⟩
  have hB0 : Below w.heap.size w W0 := by rw [hW0]; exact b_alloc (Below.refl _ _) _
  have n0 := heap_alloc_new w (.cells #[.int .i64 wh, .string (bs nm), .string (bs kn), .slice ao lo1 co, .slice af lf1 cf, .string (bs bn), .string (bs bf), .string (bs bt), .int .i64 mn, .int .i64 mx, .string (bs fn), .int .i64 ft, .bool fm, .bool fk, .int .i64 vt, .int .i64 vn, .string (bs vs), .string (bs tn)] 38)
  rw [← hW0] at n0
  have hi : ¬ idxK nm L 0 = -1 := fun e => by unfold e4 at hx; rw [if_pos e] at hx; exact absurd hx (by decide)
  obtain ⟨j, q, hj, hat, hq, _⟩ := nmAt_has hi
  have hf : fnd fn q.fs = true := by
    unfold e4 at hx
    rw [if_neg hi, fdsAt_eq hat hq] at hx
    cases hb : fnd fn q.fs
    · rw [hb] at hx; exact absurd hx (by decide)
    · rfl
  obtain ⟨vk, vb, hp, hX, hK, hA, hT⟩ := h.on hB0
  obtain ⟨gk, cp, rfl⟩ := hK.at (Nat.lt_of_le_of_lt (Nat.zero_le _) (List.getElem?_eq_some_iff.1 hq).1)
  have cow := ownField_some (B := B) hp hX hK hn hG ⟨wh, nm, ⟨kn, ko, kf, .slice ao lo1 co, .slice af lf1 cf⟩, ⟨bn, bf, bt, mn, mx⟩, ⟨fn, ft, fm, fk⟩, vt, vn, vs, tn⟩ (hc.on hB0) hj hq
  simp only [hf] at cow
  have cow : Calls Tryz.prog 113 #[.pointer (some ⟨p, 0, none⟩), (⟨wh, nm, ⟨kn, ko, kf, .slice ao lo1 co, .slice af lf1 cf⟩, ⟨bn, bf, bt, mn, mx⟩, ⟨fn, ft, fm, fk⟩, vt, vn, vs, tn⟩ : Ch).one] W0 fun e w' => e = .returned (.tuple #[.pointer (some ⟨gk, j * 3, none⟩), .int .i64 (lo fn q.fs), .nilIface]) ∧ Below W0.heap.size W0 w' := cow
  dsimp only [Ch.one] at cow
  have hml := fnd_lt hf
  have h8 := (hG.srt q (List.mem_of_getElem? hq)).2
  have hFq := (hK.2 q (List.mem_of_getElem? hq)).2
  obtain ⟨aq, cq, eq1⟩ := own_slice hFq
  rw [fdsAt_eq hat hq]
  have HD : Hid (∀ W, Below W0.heap.size W0 W → W.cell? ⟨gk, j * 3 + 2, none⟩ = some (.slice aq q.fs.length cq) ∧ Calls Tryz.prog 114 #[.slice aq q.fs.length cq, .int .i64 (lo fn q.fs), .int .i64 ((lo fn q.fs : Int) + 1)] W fun e w' => ∃ v', e = .returned v' ∧ w'.ownsRow base 28 4 v' (q.fs.eraseIdx (lo fn q.fs)).length (cellsF (q.fs.eraseIdx (lo fn q.fs))) ∧ (w'.cell? ⟨gk, j * 3 + 2, none⟩ = some (.slice aq q.fs.length cq) ∧ w'.frozen? ⟨gk, j * 3 + 2, none⟩ = false) ∧ OSc (w'.setCell ⟨gk, j * 3 + 2, none⟩ v') base p (L.set j ⟨q.nm, q.of, q.fs.eraseIdx (lo fn q.fs), q.vo, v'⟩) B ∧ Below base w (w'.setCell ⟨gk, j * 3 + 2, none⟩ v')) := fun W hb => by
    have hkw := hK.kt (.of_below hb) (.of_below hb) (.of_below hb)
    have hFw := (hkw.2 q (List.mem_of_getElem? hq)).2
    have hc2 := hkw.cell2 hq
    rw [eq1] at hc2
    refine ⟨hc2, ?_⟩
    have cd := deleteF_any hFw (fd_one q.fs) (by omega) (lo fn q.fs) hml
    rw [eq1] at cd
    refine cd.mono ?_
    rintro e w' ⟨v', rfl, h2, h3, h4⟩
    have hbw := on1K hB0 hb (Nat.le_refl _)
    obtain ⟨r1, r2, r3⟩ := osc_setF hp ((hb.block p (Array.getElem?_eq_some_iff.1 hX).1).trans hX) hkw hA (own_kt hT (.of_below hb)) (Nat.le_trans hbase hbw.size) hq (by rw [eq1]; exact h3) h2 (.inl (by rw [eq1]; exact h4))
    rw [eq1] at r1
    exact ⟨v', rfl, h2, r1, r2, (hbw.mono hbase).trans r3⟩
  have HE : Hid (∀ v', (L.set j ⟨q.nm, q.of, q.fs.eraseIdx (lo fn q.fs), q.vo, v'⟩).map kq3 = (setFs L nm (q.fs.eraseIdx (lo fn q.fs))).map kq3) := fun v' => setFs_kq hat hq _ v'
  have HN := Lib.hid n0
  have hw1 : IntKind.i64.wrap ((lo fn q.fs : Int) + 1) = (lo fn q.fs : Int) + 1 := by rw [IntKind.wrap_i64]; omega
  have hm8 : lo fn q.fs < 8 := by omega
  clear hX hK hA hT hFq h hx n0 hB0 hG hj hat hq hf hi hml h8 hp eq1
  go_enter Tryz.func74, Tryz.ntmps74
  go_upto_region 1 with fail
  rw [← hW0]
  clear hW0
  go_wp2_with (first | (refine wpList_load_row rfl 38 (.tmp 3) rfl w.heap.size rfl 38 _ (0, 0) _ HN.out Tryz.underlying38 rfl info37 ?_) | (go_at_call 113; refine cow.mono ?_; rintro e w1 ⟨rfl, hB1⟩; obtain ⟨g0, g1⟩ := HD.out w1 hB1) | (go_at_call 114; refine g1.mono ?_; rintro e w2 ⟨v2, rfl, ho2, ⟨z0, z1⟩, z2⟩; obtain ⟨a2, c2, rfl⟩ := own_slice ho2; have HZ := Lib.hid z2; clear z2 ho2))
  go_ret
  exact ⟨rfl, ⟨_, HZ.out.1, HE.out _⟩, HZ.out.2⟩
end Go.Proofs.YtpmblbhemcippaaGreatDoor
