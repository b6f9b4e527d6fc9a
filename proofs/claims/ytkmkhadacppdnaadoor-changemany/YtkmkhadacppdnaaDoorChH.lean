/-
  The walk of change.ownField.
-/
import Derived.Test.YtkmkhadacppdnaaDoorChG
namespace Go.Proofs.YtkmkhadacppdnaaDoor
open Go.RowKit
set_option linter.unusedVariables false
set_option linter.unusedSimpArgs false

theorem fdsAt_eq {L : List Kd} {n : Nm} {j : Nat} {q : Kd} (hat : nmAt L n = j) (hq : L[j]? = some q) : fdsAt L n = q.fs := by unfold fdsAt; rw [hat, hq]
theorem Good.srt {L : List Kd} (h : Good L) : ∀ k ∈ L, Srt k.fs ∧ k.fs.length ≤ 8 := fun k hk => by
  obtain ⟨i, hi⟩ := List.getElem?_of_mem hk
  obtain ⟨_, _, ⟨_, h8⟩, _, hf, _⟩ := kErr_zero (h i k hi)
  refine ⟨?_, h8⟩
  have key : ∀ (l : List Fd) (o : Option Fd), fChk o l = 0 → Srt l ∧ ∀ q, o = some q → ∀ x ∈ l, Op.bytesLess q.nm x.nm = true := by
    intro l
    induction l with
    | nil => intro o _; exact ⟨srt_nil, fun q _ x hx => by cases hx⟩
    | cons f r ih =>
      intro o ho
      unfold fChk at ho
      split at ho
      · rename_i hb
        obtain ⟨h1, h2⟩ := ih (some f) ho
        refine ⟨List.pairwise_cons.2 ⟨fun x hx => h2 f rfl x hx, h1⟩, fun q hq x hx => ?_⟩
        subst hq
        have hqf : Op.bytesLess q.nm f.nm = true := by
          unfold fBad at hb
          split at hb
          · split at hb
            · split at hb
              · exact absurd hb (by decide)
              · simp only at hb
                split at hb
                · exact absurd hb (by decide)
                · rename_i hn
                  have hn' : (Op.bytesLess f.nm q.nm || f.nm == q.nm) = false := by simpa using hn
                  obtain ⟨a1, a2⟩ := Bool.or_eq_false_iff.1 hn'
                  exact less_tri a1 (by simpa using a2)
            · exact absurd hb (by decide)
          · rename_i hz; exact absurd hb hz
        rcases List.mem_cons.1 hx with rfl | hx
        · exact hqf
        · exact less_trans hqf (h2 f rfl x hx)
      · rename_i hb; exact absurd ho hb
  exact (key k.fs none hf).1
set_option maxHeartbeats 4000000 in
set_option maxRecDepth 100000 in
theorem ownField_none {w : World} {base p : Nat} {L : List Kd} {B : List Bd} (h : OSc w base p L B) (hn : L.length ≤ 12) (c : Ch) (hc : ChIs w c) (hx : idxK c.nm L 0 = -1) :
    Calls Tryd.prog 54 #[.pointer (some ⟨p, 0, none⟩), c.one] w fun e w' => e = .returned (.tuple #[.pointer none, .int .i64 0, .iface 48 (.int .i64 5)]) ∧ Below w.heap.size w w' := by
  obtain ⟨vk, vb, hp, hX, hK, hA, hT⟩ := h
  obtain ⟨a, cp, rfl⟩ := own_slice hK.1
  obtain ⟨wh, nm, ⟨kn, ko, kf, vo, vf⟩, ⟨bn, bf, bt, mn, mx⟩, ⟨fn, ft, fm, fk⟩, vt, vn, vs, tn⟩ := c
  obtain ⟨ao, lo1, co, q1⟩ := hc.1.sl
  obtain ⟨af, lf1, cf, q2⟩ := hc.2.sl
  simp only at q1 q2 hx ⊢
  subst q1 q2
  obtain ⟨W0, hW0⟩ : ∃ W0, W0 = w.alloc (.cells #[.int .i64 wh, .string (bs nm), .string (bs kn), .slice ao lo1 co, .slice af lf1 cf, .string (bs bn), .string (bs bf), .string (bs bt), .int .i64 mn, .int .i64 mx, .string (bs fn), .int .i64 ft, .bool fm, .bool fk, .int .i64 vt, .int .i64 vn, .string (bs vs), .string (bs tn)] 42) := ⟨_, rfl⟩
  have hB0 : Below w.heap.size w W0 := by rw [hW0]; exact b_alloc (Below.refl _ _) _
  have n0 := heap_alloc_new w (.cells #[.int .i64 wh, .string (bs nm), .string (bs kn), .slice ao lo1 co, .slice af lf1 cf, .string (bs bn), .string (bs bf), .string (bs bt), .int .i64 mn, .int .i64 mx, .string (bs fn), .int .i64 ft, .bool fm, .bool fk, .int .i64 vt, .int .i64 vn, .string (bs vs), .string (bs tn)] 42)
  rw [← hW0] at n0
  have hX0 := (hB0.block p (Array.getElem?_eq_some_iff.1 hX).1).trans hX
  have c0 : W0.cell? ⟨p, 0, none⟩ = some (.slice a L.length cp) := cell_at hX0 rfl
  have c1 : W0.cell? ⟨w.heap.size, 1, none⟩ = some (.string (bs nm)) := cell_at n0 rfl
  have cc : ∀ W, Below W0.heap.size W0 W → Calls Tryd.prog 45 #[.slice a L.length cp, .string (bs nm)] W fun e w' => e = .returned (.int .i64 (-1)) ∧ Below W.heap.size W w' := fun W hb => by
    have := findKind_any ((hK.isK.on hB0).on hb) hn nm
    rw [hx] at this
    exact this
  have HC := Lib.hid cc
  have HB0 := Lib.hid hB0
  clear hT hK hA hX hx hX0 cc n0 hB0
  go_enter Tryd.func54, Tryd.ntmps54
  go_upto_region 1 with fail
  rw [← hW0]
  clear hW0
  go_cut [7] (fun s wx => s = .int .i64 (-1) ∧ Below W0.heap.size W0 wx)
  case first =>
    go_region_with (go_at_call 45; refine (HC.out _ (b_drewK (Below.refl _ _) 1)).mono ?_; rintro e W2 ⟨rfl, hB2⟩)
    all_goals go_wp2
    all_goals go_meet
    all_goals exact ⟨rfl, on1K (b_drewK (Below.refl _ _) 1) hB2 (Nat.le_refl _)⟩
  case rest =>
    obtain ⟨rfl, hB⟩ := hcut
    go_wp2
    go_ret3
    exact ⟨rfl, on1K HB0.out hB (Nat.le_refl _)⟩
/-- What ownField finds of a kind that is there. -/
def OwR (r : Bool) (gk j n : Nat) : Value := if r = true then .tuple #[.pointer (some ⟨gk, j * 3, none⟩), .int .i64 n, .nilIface] else .tuple #[.pointer none, .int .i64 0, .iface 48 (.int .i64 5)]
set_option maxHeartbeats 8000000 in
set_option maxRecDepth 100000 in
theorem ownField_some {w : World} {base p gk cp : Nat} {L : List Kd} {B : List Bd} {vb : Value} (hp : base ≤ p) (hX : w.heap[p]? = some (.cells #[.slice (some ⟨gk, 0, none⟩) L.length cp, vb] 25 (0, 0))) (hK : OwnKs w base (.slice (some ⟨gk, 0, none⟩) L.length cp) L) (hn : L.length ≤ 12) (hG : Good L) (c : Ch) (hc : ChIs w c) {j : Nat} {q : Kd} (hj : idxK c.nm L 0 = (j : Int)) (hq : L[j]? = some q) :
    Calls Tryd.prog 54 #[.pointer (some ⟨p, 0, none⟩), c.one] w fun e w' => e = .returned (OwR (fnd c.fd.nm q.fs) gk j (lo c.fd.nm q.fs)) ∧ Below w.heap.size w w' := by
  obtain ⟨wh, nm, ⟨kn, ko, kf, vo, vf⟩, ⟨bn, bf, bt, mn, mx⟩, ⟨fn, ft, fm, fk⟩, vt, vn, vs, tn⟩ := c
  obtain ⟨ao, lo1, co, q1⟩ := hc.1.sl
  obtain ⟨af, lf1, cf, q2⟩ := hc.2.sl
  simp only at q1 q2 hj ⊢
  subst q1 q2
  obtain ⟨W0, hW0⟩ : ∃ W0, W0 = w.alloc (.cells #[.int .i64 wh, .string (bs nm), .string (bs kn), .slice ao lo1 co, .slice af lf1 cf, .string (bs bn), .string (bs bf), .string (bs bt), .int .i64 mn, .int .i64 mx, .string (bs fn), .int .i64 ft, .bool fm, .bool fk, .int .i64 vt, .int .i64 vn, .string (bs vs), .string (bs tn)] 42) := ⟨_, rfl⟩
  have hB0 : Below w.heap.size w W0 := by rw [hW0]; exact b_alloc (Below.refl _ _) _
  have n0 := heap_alloc_new w (.cells #[.int .i64 wh, .string (bs nm), .string (bs kn), .slice ao lo1 co, .slice af lf1 cf, .string (bs bn), .string (bs bf), .string (bs bt), .int .i64 mn, .int .i64 mx, .string (bs fn), .int .i64 ft, .bool fm, .bool fk, .int .i64 vt, .int .i64 vn, .string (bs vs), .string (bs tn)] 42)
  rw [← hW0] at n0
  have hX0 := (hB0.block p (Array.getElem?_eq_some_iff.1 hX).1).trans hX
  have hjl := (List.getElem?_eq_some_iff.1 hq).1
  have hwl : w.heap.size < W0.heap.size := by rw [hW0]; simp
  have hpl : p < W0.heap.size := (Array.getElem?_eq_some_iff.1 hX0).1
  have hgl : gk < W0.heap.size := Nat.lt_of_lt_of_le (hK.1.lt gk rfl).2 hB0.size
  have c0 : W0.cell? ⟨p, 0, none⟩ = some (.slice (some ⟨gk, 0, none⟩) L.length cp) := cell_at hX0 rfl
  have c1 : W0.cell? ⟨w.heap.size, 1, none⟩ = some (.string (bs nm)) := cell_at n0 rfl
  have cc : ∀ W, Below W0.heap.size W0 W → Calls Tryd.prog 45 #[.slice (some ⟨gk, 0, none⟩) L.length cp, .string (bs nm)] W fun e w' => e = .returned (.int .i64 (j : Int)) ∧ Below W.heap.size W w' := fun W hb => by
    have := findKind_any ((hK.isK.on hB0).on hb) hn nm
    rw [hj] at this
    exact this
  have hF := (hK.parts q (List.mem_of_getElem? hq)).2
  obtain ⟨aq, lq, cq, eq1⟩ := hF.sl
  have cf' : ∀ W, Below W0.heap.size W0 W → Calls Tryd.prog 51 #[.slice aq lq cq, .string (bs fn)] W fun e w' => e = .returned (.tuple #[.int .i64 (lo fn q.fs), .bool (fnd fn q.fs)]) ∧ Below W.heap.size W w' := fun W hb => by
    have hs := hG.srt q (List.mem_of_getElem? hq)
    have := findField_any ((hF.on hB0).on hb) hs.1 (by omega) fn
    rw [eq1] at this
    exact this
  have HX : Hid (∀ W, Below W0.heap.size W0 W → W.cell? ⟨p, 0, none⟩ = some (.slice (some ⟨gk, 0, none⟩) L.length cp) ∧ W.cell? ⟨gk, j * 3 + 2, none⟩ = some (.slice aq lq cq) ∧ W.cell? ⟨w.heap.size, 10, none⟩ = some (.string (bs fn))) := fun W hb => by
    refine ⟨cell_at ((hb.block p hpl).trans hX0) rfl, ?_, cell_at ((hb.block _ hwl).trans n0) rfl⟩
    have h1 := World.ownsRow.cells (own_kt (own_kt hK.1 (.of_below hB0)) (.of_below hb)) (g := gk) rfl (j * 3 + 2) q.vf ((flatK kd_len L j q 2 hq (by omega)).trans rfl)
    rw [Addr.add_lit, Nat.zero_add, eq1] at h1
    exact h1
  have HC := Lib.hid cc
  have HCf := Lib.hid cf'
  have HB0 := Lib.hid hB0
  have hjn : ¬ (j : Int) < 0 := by omega
  have hji : (j : Int) < (L.length : Int) := by omega
  have hlo : lo fn q.fs ≤ 8 := Nat.le_trans (lo_le _ _) (hG.srt q (List.mem_of_getElem? hq)).2
  generalize lo fn q.fs = m at *
  generalize fnd fn q.fs = r at *
  clear hK hX hX0 cc n0 hB0 hj hq hF cf' hG
  go_enter Tryd.func54, Tryd.ntmps54
  go_upto_region 1 with fail
  rw [← hW0]
  clear hW0
  go_cut [7] (fun s wx => s = .int .i64 (j : Int) ∧ Below W0.heap.size W0 wx)
  case first =>
    go_region_with (go_at_call 45; refine (HC.out _ (b_drewK (Below.refl _ _) 1)).mono ?_; rintro e W2 ⟨rfl, hB2⟩)
    all_goals go_wp2
    all_goals go_meet
    all_goals exact ⟨rfl, on1K (b_drewK (Below.refl _ _) 1) hB2 (Nat.le_refl _)⟩
  case rest =>
    obtain ⟨rfl, hB⟩ := hcut
    obtain ⟨d0, d1, d2⟩ := HX.out wc hB
    go_upto_region 4 with fail
    go_cut [5, 8] (fun s t wx => s = .int .i64 (m : Int) ∧ t = .bool r ∧ Below W0.heap.size W0 wx)
    case first =>
      go_region_with (go_at_call 51; refine (HCf.out _ (b_drewK hB 1)).mono ?_; rintro e W2 ⟨rfl, hB2⟩)
      all_goals go_wp2
      all_goals go_meet
      all_goals exact ⟨rfl, rfl, on1K (b_drewK hB 1) hB2 (Nat.le_refl _)⟩
    case rest =>
      obtain ⟨rfl, rfl, hB3⟩ := hcut
      obtain ⟨g0, g1, g2⟩ := HX.out _ hB3
      cases r
      · go_wp2
        go_ret3
        exact ⟨rfl, on1K HB0.out hB3 (Nat.le_refl _)⟩
      · go_wp2
        go_ret3
        exact ⟨rfl, on1K HB0.out hB3 (Nat.le_refl _)⟩
end Go.Proofs.YtkmkhadacppdnaaDoor
