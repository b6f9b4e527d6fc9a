/-
  The order of bytes.
-/
import Derived.Lib.Bytealg
import Derived.Lib.Small
import Derived.WalkKit
import Derived.Test.YtelbmianojomgaaM05
import Derived.Test.YtelbmianojomgaaM07
namespace Go.Proofs.Ytelbmianojomgaa
open Go.RowKit
set_option linter.unusedVariables false
set_option linter.unusedSimpArgs false

theorem cmpB_range (a b : List UInt8) : Lib.compareBytes a b = -1 ∨ Lib.compareBytes a b = 0 ∨ Lib.compareBytes a b = 1 := by
  induction a generalizing b with
  | nil => cases b <;> simp [Lib.compareBytes]
  | cons c r ih =>
    cases b with
    | nil => simp [Lib.compareBytes]
    | cons d q =>
      simp only [Lib.compareBytes]
      split
      · simp
      · split
        · simp
        · exact ih q
theorem cmpB_anti (a b : List UInt8) : Lib.compareBytes b a = -Lib.compareBytes a b := by
  induction a generalizing b with
  | nil => cases b <;> simp [Lib.compareBytes]
  | cons c r ih =>
    cases b with
    | nil => simp [Lib.compareBytes]
    | cons d q =>
      simp only [Lib.compareBytes]
      by_cases h1 : c < d
      · have h2 : ¬ d < c := by rw [UInt8.lt_iff_toNat_lt] at *; omega
        simp [h1, h2]
      · by_cases h2 : d < c
        · simp [h1, h2]
        · simp [h1, h2, ih q]
theorem cmpB_zero (a b : List UInt8) : Lib.compareBytes a b = 0 ↔ a = b := by
  induction a generalizing b with
  | nil => cases b <;> simp [Lib.compareBytes]
  | cons c r ih =>
    cases b with
    | nil => simp [Lib.compareBytes]
    | cons d q =>
      simp only [Lib.compareBytes]
      by_cases h1 : c < d
      · have hne : ¬ c = d := by intro e; rw [e, UInt8.lt_iff_toNat_lt] at h1; omega
        simp [h1, hne]
      · by_cases h2 : d < c
        · have hne : ¬ c = d := by intro e; rw [e, UInt8.lt_iff_toNat_lt] at h2; omega
          simp [h1, h2, hne]
        · have he : c = d := by rw [UInt8.lt_iff_toNat_lt] at h1 h2; exact UInt8.toNat_inj.1 (by omega)
          simp [h1, h2, ih q, he]
theorem cmpB_trans (a b c : List UInt8) (h1 : Lib.compareBytes a b ≤ 0) (h2 : Lib.compareBytes b c ≤ 0) : Lib.compareBytes a c ≤ 0 := by
  induction a generalizing b c with
  | nil => cases c <;> simp [Lib.compareBytes]
  | cons x r ih =>
    cases b with
    | nil => simp [Lib.compareBytes] at h1
    | cons y q =>
      cases c with
      | nil => simp [Lib.compareBytes] at h2
      | cons z p =>
        simp only [Lib.compareBytes] at h1 h2 ⊢
        simp only [UInt8.lt_iff_toNat_lt] at *
        by_cases a1 : x.toNat < y.toNat
        · by_cases b1 : y.toNat < z.toNat
          · rw [if_pos (by omega)]; decide
          · by_cases b2 : z.toNat < y.toNat
            · rw [if_neg b1, if_pos b2] at h2; simp at h2
            · rw [if_pos (by omega)]; decide
        · by_cases a2 : y.toNat < x.toNat
          · rw [if_neg a1, if_pos a2] at h1; simp at h1
          · rw [if_neg a1, if_neg a2] at h1
            by_cases b1 : y.toNat < z.toNat
            · rw [if_pos (by omega)]; decide
            · by_cases b2 : z.toNat < y.toNat
              · rw [if_neg b1, if_pos b2] at h2; simp at h2
              · rw [if_neg b1, if_neg b2] at h2
                rw [if_neg (by omega), if_neg (by omega)]
                exact ih q p h1 h2
theorem less_cmp (a : List UInt8) : ∀ b, Op.bytesLess a b = decide (Lib.compareBytes a b < 0) := by
  induction a with
  | nil => intro b; cases b <;> simp [Op.bytesLess, Lib.compareBytes]
  | cons c r ih =>
    intro b
    cases b with
    | nil => simp [Op.bytesLess, Lib.compareBytes]
    | cons d q =>
      simp only [Op.bytesLess, Lib.compareBytes]
      by_cases h1 : c < d
      · simp [h1]
      · by_cases h2 : d < c
        · have hne : ¬ c = d := by intro e; rw [e, UInt8.lt_iff_toNat_lt] at h2; omega
          simp [h1, h2, hne]
        · have he : c = d := by rw [UInt8.lt_iff_toNat_lt] at h1 h2; exact UInt8.toNat_inj.1 (by omega)
          simp [h1, h2, he, ih q]
end Go.Proofs.Ytelbmianojomgaa

/-
  The walk of delta.copied.
-/
namespace Go.Proofs.Ytelbmianojomgaa
open Go.RowKit
set_option linter.unusedVariables false
set_option linter.unusedSimpArgs false

set_option maxHeartbeats 4000000 in
set_option maxRecDepth 100000 in
theorem copied_any {vn vt : Value} {N : List Nd} {T : List Te} {w : World} (hN : IsN w vn N) (hT : IsT w vt T) (h60 : N.length ≤ 60) (h120 : T.length ≤ 120) (h8 : ∀ n ∈ N, n.rc.length ≤ 1000) :
    Calls Try.prog 35 #[.agg #[vn, vt]] w fun e w' => ∃ un ut M, e = .returned (.agg #[un, ut]) ∧ cN M = cN N ∧ OwnNs w' w.heap.size un M ∧ OwnTs w' w.heap.size ut T ∧ Below w.heap.size w w' := by
  obtain ⟨W0, hW0⟩ : ∃ W0, W0 = (w.alloc (.cells #[vn, vt] 25)).alloc (.cells #[.slice none 0 0, .slice none 0 0] 25) := ⟨_, rfl⟩
  have hB0 : Below w.heap.size w W0 := by rw [hW0]; exact b_alloc (b_alloc (Below.refl _ _) _) _
  have hs0 : W0.heap.size = w.heap.size + 2 := by rw [hW0]; simp
  have n0 : W0.heap[w.heap.size]? = some (.cells #[vn, vt] 25 (0, 0)) := by rw [hW0]; exact (heap_alloc_old _ _ (by simp)).trans (heap_alloc_new w _)
  have n1 : W0.heap[w.heap.size + 1]? = some (.cells #[.slice none 0 0, .slice none 0 0] 25 (0, 0)) := by
    have := heap_alloc_new (w.alloc (.cells #[vn, vt] 25)) (.cells #[.slice none 0 0, .slice none 0 0] 25)
    rw [World.size_alloc] at this; rw [hW0]; exact this
  have clN := fun (W : World) (hB : Below W0.heap.size W0 W) (ty : TypeId) => clone_nodes W W0.heap.size hB.size (hN.on (on1K hB0 hB (Nat.le_refl _))) (by omega) ty
  have clT := fun (W : World) (hB : Below W0.heap.size W0 W) (ty : TypeId) => clone_ties W W0.heap.size hB.size (hT.on (on1K hB0 hB (Nat.le_refl _))) (by omega) ty
  have HC : Hid ((∀ (W : World) (hB : Below W0.heap.size W0 W) (ty : TypeId), ∃ v' w', (Builtin.append_ #[22, 22] ty #[.slice none 0 0, vn]).run Try.prog W = .ok v' w' ∧ (w'.ownsRow W0.heap.size 29 3 v' N.length (cellsN N) ∧ W.grownBy w' none)) ∧ (∀ (W : World) (hB : Below W0.heap.size W0 W) (ty : TypeId), ∃ v' w', (Builtin.append_ #[23, 23] ty #[.slice none 0 0, vt]).run Try.prog W = .ok v' w' ∧ (OwnTs w' W0.heap.size v' T ∧ W.grownBy w' none))) := ⟨clN, clT⟩
  have HH : Hid (Below w.heap.size w W0 ∧ W0.heap.size = w.heap.size + 2 ∧ W0.heap[w.heap.size]? = some (.cells #[vn, vt] 25 (0, 0)) ∧ W0.heap[w.heap.size + 1]? = some (.cells #[.slice none 0 0, .slice none 0 0] 25 (0, 0)) ∧ IsN w vn N ∧ IsT w vt T) := ⟨hB0, hs0, n0, n1, hN, hT⟩
  obtain ⟨an, cn, rfl, _⟩ := hN
  obtain ⟨am, cm, rfl, _⟩ := hT
  have c0 : W0.cell? ⟨w.heap.size, 0, none⟩ = some (.slice an N.length cn) := cell_at n0 rfl
  have c1 : W0.cell? ⟨w.heap.size, 1, none⟩ = some (.slice am T.length cm) := cell_at n0 rfl
  clear clN clT hB0 n0 n1
  go_enter Try.func35, Try.ntmps35
  go_upto_region 1 with fail
  rw [← hW0]
  clear hW0
  have m0 : ¬ w.heap.size = W0.heap.size := by omega
  have q0 : ∀ o, (W0.drew.alloc o).cell? ⟨w.heap.size, 0, none⟩ = some (.slice an N.length cn) := cell_old (w := W0.drew) c0
  have q1 : ∀ o, (W0.drew.alloc o).cell? ⟨w.heap.size, 1, none⟩ = some (.slice am T.length cm) := cell_old (w := W0.drew) c1
  go_cut [3] (fun s3 wx => CpA w W0 N T s3 wx)
  case first =>
   go_region_law (first | (refine step_append_E rfl (.const (.slice none 0 0)) (.tmp 6) 22 rfl (.slice none 0 0) (.slice an N.length cn) (by simp [Act.eval, Act.put]) (by simp [Act.eval, Act.put]) (HC.out.1 _ (by first | exact b_drew (Below.refl _ W0) | exact b_alloc (b_drew (Below.refl _ W0)) _ | exact hb2.out | exact b_alloc hb2.out _) _) ?_; rintro v1 w1 ⟨hown1, hgrow1⟩; obtain ⟨a1, p1, rfl⟩ := own_slice hown1; have hb1 : Hid (Below W0.heap.size W0 w1) := (on1K (by first | exact b_drew (Below.refl _ W0) | exact b_alloc (b_drew (Below.refl _ W0)) _ | exact hb2.out | exact b_alloc hb2.out _) (grown_below hgrow1) (Nat.le_refl _)); have e10 := (hb1.out.cell (p := ⟨w.heap.size, 0, none⟩) (by show w.heap.size < W0.heap.size; omega)).trans c0; have e11 := (hb1.out.cell (p := ⟨w.heap.size, 1, none⟩) (by show w.heap.size < W0.heap.size; omega)).trans c1; have q10 := cell_old e10; have q11 := cell_old e11; have m1 : ¬ w.heap.size = w1.heap.size := (by have := hb1.out.size; omega); (try (have kb1 : w1.heap[w.heap.size + 2]? = some (.cells #[.slice none 0 0, .slice none 0 0] 25 (0, 0)) := (by first | (rw [← hs0]; exact (hgrow1.block _ (by simp) (by simp)).trans (heap_alloc_new W0.drew _)) | exact (hgrow1.block _ (Array.getElem?_eq_some_iff.1 kb2.out).1 (by simp)).trans kb2.out); have y10 : w1.cell? ⟨w.heap.size + 2, 0, none⟩ = some (.slice none 0 0) := cell_at kb1 rfl; have y11 : w1.cell? ⟨w.heap.size + 2, 1, none⟩ = some (.slice none 0 0) := cell_at kb1 rfl; have x10 : w1.frozen? ⟨w.heap.size + 2, 0, none⟩ = false := frz_at kb1; have x11 : w1.frozen? ⟨w.heap.size + 2, 1, none⟩ = false := frz_at kb1; replace kb1 := Lib.hid kb1)); (try (have kc1 : w1.heap[w2.heap.size]? = some (.cells #[.slice none 0 0, .slice none 0 0] 25 (0, 0)) := (hgrow1.block _ (by simp) (by simp)).trans (heap_alloc_new w2 _); have yy10 : w1.cell? ⟨w2.heap.size, 0, none⟩ = some (.slice none 0 0) := cell_at kc1 rfl; have yy11 : w1.cell? ⟨w2.heap.size, 1, none⟩ = some (.slice none 0 0) := cell_at kc1 rfl; have xx10 : w1.frozen? ⟨w2.heap.size, 0, none⟩ = false := frz_at kc1; have xx11 : w1.frozen? ⟨w2.heap.size, 1, none⟩ = false := frz_at kc1; replace kc1 := Lib.hid kc1)); have z1 := grown_lt hgrow1; have hc1 := grown_cell hgrow1; have hf1 := grown_frozen hgrow1; (try (have hown2b := own_kt hown2 (Kt.of_below (by first | exact grown_below hgrow1 | exact on1K (b_alloc (Below.refl _ _) _) (grown_below hgrow1) (Nat.le_refl _)))))) | (refine step_append_E rfl (.const (.slice none 0 0)) (.tmp 9) 23 rfl (.slice none 0 0) (.slice am T.length cm) (by simp [Act.eval, Act.put]) (by simp [Act.eval, Act.put]) (HC.out.2 _ (by first | exact b_drew (Below.refl _ W0) | exact b_alloc (b_drew (Below.refl _ W0)) _ | exact hb1.out | exact b_alloc hb1.out _) _) ?_; rintro v2 w2 ⟨hown2, hgrow2⟩; obtain ⟨a2, p2, rfl⟩ := own_slice hown2; have hb2 : Hid (Below W0.heap.size W0 w2) := (on1K (by first | exact b_drew (Below.refl _ W0) | exact b_alloc (b_drew (Below.refl _ W0)) _ | exact hb1.out | exact b_alloc hb1.out _) (grown_below hgrow2) (Nat.le_refl _)); have e20 := (hb2.out.cell (p := ⟨w.heap.size, 0, none⟩) (by show w.heap.size < W0.heap.size; omega)).trans c0; have e21 := (hb2.out.cell (p := ⟨w.heap.size, 1, none⟩) (by show w.heap.size < W0.heap.size; omega)).trans c1; have q20 := cell_old e20; have q21 := cell_old e21; have m2 : ¬ w.heap.size = w2.heap.size := (by have := hb2.out.size; omega); (try (have kb2 : w2.heap[w.heap.size + 2]? = some (.cells #[.slice none 0 0, .slice none 0 0] 25 (0, 0)) := (by first | (rw [← hs0]; exact (hgrow2.block _ (by simp) (by simp)).trans (heap_alloc_new W0.drew _)) | exact (hgrow2.block _ (Array.getElem?_eq_some_iff.1 kb1.out).1 (by simp)).trans kb1.out); have y20 : w2.cell? ⟨w.heap.size + 2, 0, none⟩ = some (.slice none 0 0) := cell_at kb2 rfl; have y21 : w2.cell? ⟨w.heap.size + 2, 1, none⟩ = some (.slice none 0 0) := cell_at kb2 rfl; have x20 : w2.frozen? ⟨w.heap.size + 2, 0, none⟩ = false := frz_at kb2; have x21 : w2.frozen? ⟨w.heap.size + 2, 1, none⟩ = false := frz_at kb2; replace kb2 := Lib.hid kb2)); (try (have kc2 : w2.heap[w1.heap.size]? = some (.cells #[.slice none 0 0, .slice none 0 0] 25 (0, 0)) := (hgrow2.block _ (by simp) (by simp)).trans (heap_alloc_new w1 _); have yy20 : w2.cell? ⟨w1.heap.size, 0, none⟩ = some (.slice none 0 0) := cell_at kc2 rfl; have yy21 : w2.cell? ⟨w1.heap.size, 1, none⟩ = some (.slice none 0 0) := cell_at kc2 rfl; have xx20 : w2.frozen? ⟨w1.heap.size, 0, none⟩ = false := frz_at kc2; have xx21 : w2.frozen? ⟨w1.heap.size, 1, none⟩ = false := frz_at kc2; replace kc2 := Lib.hid kc2)); have z2 := grown_lt hgrow2; have hc2 := grown_cell hgrow2; have hf2 := grown_frozen hgrow2; (try (have hown1b := own_kt hown1 (Kt.of_below (by first | exact grown_below hgrow2 | exact on1K (b_alloc (Below.refl _ _) _) (grown_below hgrow2) (Nat.le_refl _)))))))
   all_goals
    go_wp2
    go_meet
    first
      | exact cpA_alloc hs0 (by first | exact hown1 | exact hown1b) (by first | exact hown2 | exact hown2b) (by first | exact hb1.out | exact hb2.out)
      | exact cpA_set hs0 (by first | exact Nat.le_refl _ | (have := hb1.out.size; omega) | (have := hb2.out.size; omega)) (by first | exact kc2.out | exact kc1.out | exact kb2.out | exact kb1.out) (by first | exact hown1 | exact hown1b) (by first | exact hown2 | exact hown2b) (by first | exact hb1.out | exact hb2.out)
  case rest =>
  obtain ⟨p, a1, p1, a2, p2, rfl, hp, hX, hO1, hO2, hB⟩ := hcut
  have HI : Hid (IsN w (.slice an N.length cn) N ∧ Below w.heap.size w W0) := ⟨HH.out.2.2.2.2.1, HH.out.1⟩
  have HR : Hid (W0.heap[w.heap.size + 1]? = some (.cells #[.slice none 0 0, .slice none 0 0] 25 (0, 0))) := HH.out.2.2.2.1
  have x0 : wc.cell? ⟨p, 0, none⟩ = some (.slice a1 N.length p1) := cell_at hX rfl
  have HB0 : Hid (CpB w W0 p (.slice a1 N.length p1) (.slice a2 T.length p2) N T 0 wc) := ⟨N, rfl, rfl, hX, hO1, fun k n _ hk => by omega, fun k _ => rfl, hO2, hB⟩
  clear HC q0 q1 c0 c1 hX hO1 hO2 hB HH
  go_wp2
  go_loopw [15] (fun i wr => ∃ k : Nat, k ≤ N.length ∧ i = .int .i64 k ∧ CpB w W0 p (.slice a1 N.length p1) (.slice a2 T.length p2) N T k wr) (fun i _ => N.length - (intOf i).toNat)
  case atStart => exact ⟨0, Nat.zero_le _, rfl, HB0.out⟩
  case round =>
    obtain ⟨k, hk, rfl, hC⟩ := hrel
    have HC : Hid (CpB w W0 p (.slice a1 N.length p1) (.slice a2 T.length p2) N T k wr) := hC
    by_cases hlt : k < N.length
    · obtain ⟨n, hn⟩ : ∃ n, N[k]? = some n := ⟨N[k], by simp [hlt]⟩
      obtain ⟨M, m1, m2, m3, m4, m5, m6, m7, m8⟩ := hC
      have hM : M[k]? = some n := (m6 k (Nat.le_refl _)).trans hn
      obtain ⟨g, rfl⟩ : ∃ g, a1 = some ⟨g, 0, none⟩ := by
        rcases m4.2 with ⟨e, h0⟩ | ⟨g', cap', cur, e, _⟩
        · omega
        · injection e with e1; exact ⟨g', e1⟩
      have ce : ∀ i u, i < 3 → n.cells[i]? = some u → wr.cell? ⟨g, k * 3 + i, none⟩ = some u := fun i u hi hu => by
        have := World.ownsRow.cells m4 rfl (k * 3 + i) u ((flatK nd_len M k n i hM hi).trans hu)
        rwa [Addr.add_lit, Nat.zero_add] at this
      have d0 : wr.cell? ⟨g, k * 3, none⟩ = some (.int .i64 n.id) := ce 0 _ (by omega) rfl
      have d1 : wr.cell? ⟨g, k * 3 + 1, none⟩ = some (.string n.kd) := ce 1 _ (by omega) rfl
      have d2 : wr.cell? ⟨g, k * 3 + 2, none⟩ = some n.rv := ce 2 _ (by omega) rfl
      have ff : ∀ i, wr.frozen? ⟨g, i, none⟩ = false := fun i => World.ownsRow.frozenAt m4 i
      have hgw : g < wr.heap.size := (World.ownsRow.lt m4 g rfl).2
      have hpw : p < wr.heap.size := (Array.getElem?_eq_some_iff.1 m3).1
      have hgp : ¬ g = p := by
        intro e; subst e
        rcases m4.2 with ⟨e, h0⟩ | ⟨g', cap', cur, e, _, hg, _⟩
        · cases e
        · injection e with e1; injection e1 with e2; injection e2 with e3; subst e3
          rw [hg] at m3
          injection m3 with e1; injection e1 with _ e2; exact absurd e2 (by decide)
      have x0 : wr.cell? ⟨p, 0, none⟩ = some (.slice (some ⟨g, 0, none⟩) N.length p1) := cell_at m3 rfl
      have hR : IsR wr n.rv n.rc := by
        obtain ⟨_, _, _, _, h0 | ⟨b, off, _, hb, hL⟩⟩ := HI.out.1
        · rw [h0] at hlt; simp at hlt
        · exact (hL k n hn).2.2.2.on (on1K HI.out.2 m8 (Nat.le_refl _))
      have cc := copiedNode_any n wr.drew hR (h8 n (List.mem_of_getElem? hn))
      have HP : Hid (∀ W2, Below wr.heap.size wr W2 → W2.cell? ⟨p, 0, none⟩ = some (.slice (some ⟨g, 0, none⟩) N.length p1) ∧ W2.cell? ⟨g, k * 3, none⟩ = some (.int .i64 n.id) ∧ W2.cell? ⟨g, k * 3 + 1, none⟩ = some (.string n.kd) ∧ W2.cell? ⟨g, k * 3 + 2, none⟩ = some n.rv ∧ W2.frozen? ⟨g, k * 3, none⟩ = false ∧ W2.frozen? ⟨g, k * 3 + 1, none⟩ = false ∧ W2.frozen? ⟨g, k * 3 + 2, none⟩ = false) := fun W2 h2 =>
        ⟨(h2.cell hpw).trans x0, (h2.cell hgw).trans d0, (h2.cell hgw).trans d1, (h2.cell hgw).trans d2, (h2.frozen hgw).trans (ff _), (h2.frozen hgw).trans (ff _), (h2.frozen hgw).trans (ff _)⟩
      have HN : Hid (N[k]? = some n) := hn
      have HS : Hid (∀ W2 v', OwnRc W2 wr.heap.size v' n.rc → Below wr.heap.size wr W2 → CpB w W0 p (.slice (some ⟨g, 0, none⟩) N.length p1) (.slice a2 T.length p2) N T (k + 1) (((W2.setCell ⟨g, k * 3, none⟩ (.int .i64 n.id)).setCell ⟨g, k * 3 + 1, none⟩ (.string n.kd)).setCell ⟨g, k * 3 + 2, none⟩ v')) := fun W2 v' h1 h2 => cpB_step HC.out hn h1 h2
      obtain ⟨av, lv, cv, hv⟩ := hR.sl
      obtain ⟨id, kd, rv, rc⟩ := n
      simp only at hv d0 d1 d2 HP HS cc
      subst hv
      clear m1 m2 m3 m4 m5 m6 m7 m8 hM ce ff hR hn hk
      go_wp2
      first | (go_region_law (first | (go_simp; go_at_call 60; refine cc.mono ?_; rintro e W2 ⟨v2, rfl, hR2, hB2'⟩; have hB2 := b_undrew hB2'; clear hB2'; obtain ⟨y0, z0, z1, z2, f0, f1, f2⟩ := HP.out W2 hB2; obtain ⟨u2, l2, q2, rfl⟩ := hR2.sl; have HW2 : Hid (OwnRc W2 wr.heap.size (.slice u2 l2 q2) rc ∧ Below wr.heap.size wr W2) := ⟨hR2, hB2⟩; clear hR2 hB2))) | fail
      all_goals
        go_wp2
        refine ⟨⟨k + 1, hlt, ?_, ?_⟩, ?_⟩
        · go_num
        · exact HS.out _ _ HW2.out.1 HW2.out.2
        · simp [intOf]
          omega
    · obtain rfl : k = N.length := by omega
      obtain ⟨M, m1, m2, m3, m4, m5, m6, m7, m8⟩ := hC
      have hr1 := (m8.block _ (by omega)).trans HR.out
      have hOw : OwnNs wr W0.heap.size (.slice a1 N.length p1) M := ⟨by rw [m1]; exact m4, fun n hn => by
        obtain ⟨j, hj⟩ := List.getElem?_of_mem hn
        exact m5 j n hj (by rw [← m1]; exact (List.getElem?_eq_some_iff.1 hj).1)⟩
      have HF : Hid (cN M = cN N ∧ OwnNs wr W0.heap.size (.slice a1 N.length p1) M ∧ OwnTs wr W0.heap.size (.slice a2 T.length p2) T ∧ Below w.heap.size w wr ∧ Ty wr (w.heap.size + 1) 25) := ⟨m2, hOw, m7, on1K HI.out.2 m8 (Nat.le_refl _), _, hr1⟩
      have e0 : wr.cell? ⟨p, 0, none⟩ = some (.slice a1 N.length p1) := cell_at m3 rfl
      have e1 : wr.cell? ⟨p, 1, none⟩ = some (.slice a2 T.length p2) := cell_at m3 rfl
      have r0 : wr.cell? ⟨w.heap.size + 1, 0, none⟩ = some (.slice none 0 0) := cell_at hr1 rfl
      have r1 : wr.cell? ⟨w.heap.size + 1, 1, none⟩ = some (.slice none 0 0) := cell_at hr1 rfl
      have s0 : wr.frozen? ⟨w.heap.size + 1, 0, none⟩ = false := frz_at hr1
      have s1 : wr.frozen? ⟨w.heap.size + 1, 1, none⟩ = false := frz_at hr1
      have t1 : ((wr.setCell ⟨w.heap.size + 1, 0, none⟩ (.slice a1 N.length p1)).setCell ⟨w.heap.size + 1, 1, none⟩ (.slice a2 T.length p2)).heap[w.heap.size + 1]? = some (.cells #[.slice a1 N.length p1, .slice a2 T.length p2] 25 (0, 0)) := heap_setCell_same _ _ 1 _ 25 _ (heap_setCell_same wr _ 0 _ 25 _ hr1)
      have HT : Hid (((wr.setCell ⟨w.heap.size + 1, 0, none⟩ (.slice a1 N.length p1)).setCell ⟨w.heap.size + 1, 1, none⟩ (.slice a2 T.length p2)).cell? ⟨w.heap.size + 1, 0, none⟩ = some (.slice a1 N.length p1) ∧ ((wr.setCell ⟨w.heap.size + 1, 0, none⟩ (.slice a1 N.length p1)).setCell ⟨w.heap.size + 1, 1, none⟩ (.slice a2 T.length p2)).cell? ⟨w.heap.size + 1, 1, none⟩ = some (.slice a2 T.length p2)) := ⟨cell_at t1 rfl, cell_at t1 rfl⟩
      clear m1 m2 m3 m4 m5 m6 m7 m8 hr1 hOw t1 hk x0
      go_wp2
      obtain ⟨f1, f2, f3, f4, f5⟩ := HF.out
      obtain ⟨t0, t1⟩ := HT.out
      have hs0' : w.heap.size ≤ W0.heap.size := by omega
      refine bodyPost_ret (v := .agg #[.slice a1 N.length p1, .slice a2 T.length p2]) ?_ rfl ⟨_, _, M, rfl, f1, ?_, ?_, ?_⟩
      · simp [results, Try.results35, go_sem, t0, t1]
      · exact ⟨own_base (own_kt f2.1 (((Kt.refl _ _).ty f5 (by decide) _ _).ty (f5.set _ _ _) (by decide) _ _)) hs0', fun n hn => own_base ((f2.2 n hn).kt (((Kt.refl _ _).ty f5 (by decide) _ _).ty (f5.set _ _ _) (by decide) _ _)) hs0'⟩
      · exact own_base (f3.kt (((Kt.refl _ _).ty f5 (by decide) _ _).ty (f5.set _ _ _) (by decide) _ _)) hs0'
      · exact (f4.setCell (by show _ ≤ w.heap.size + 1; omega) _).setCell (by show _ ≤ w.heap.size + 1; omega) _
end Go.Proofs.Ytelbmianojomgaa

/-
  The walk of delta.All, by contracts of delta.apply.
-/
namespace Go.Proofs.Ytelbmianojomgaa
open Go.RowKit
set_option linter.unusedVariables false
set_option linter.unusedSimpArgs false

/-- The first error of ops, one by one. -/
def OpS.err (S : OpS) : List Opx → List Nd → List Te → Int
  | [], _, _ => 0
  | o :: r, M, T => if S.e o M T = 0 then S.err r (S.m o M T) (S.t o M T) else S.e o M T
/-- Its number. -/
def OpS.at (S : OpS) : List Opx → List Nd → List Te → Nat
  | [], _, _ => 0
  | o :: r, M, T => if S.e o M T = 0 then S.at r (S.m o M T) (S.t o M T) + 1 else 0
/-- What they make of a graph. -/
def OpS.res (S : OpS) : List Opx → List Nd → List Te → List Nd × List Te
  | [], M, T => (M, T)
  | o :: r, M, T => if S.e o M T = 0 then S.res r (S.m o M T) (S.t o M T) else (M, T)
theorem ndE_c (o : Option Nd) (n : Nd) : ndE (o.map Nd.c) n.c = ndE o n := by
  cases o <;> rfl
theorem chkN_c : ∀ (N : List Nd) (o : Option Nd), chkN (o.map Nd.c) (cN N) = chkN o N
  | [], o => by cases o <;> rfl
  | n :: r, o => by
    show chkN (o.map Nd.c) (n.c :: cN r) = _
    have e := ndE_c o n
    by_cases h : ndE o n = 0
    · rw [chkN_ok h, chkN_ok (e.trans h)]
      exact chkN_c r (some n)
    · rw [chkN_bad h, chkN_bad (by rw [e]; exact h), e]
theorem gErr_c (N : List Nd) (T : List Te) : gErr (cN N) T = gErr N T := by
  unfold gErr
  rw [show chkN none (cN N) = chkN none N from chkN_c N none, show (cN N).length = N.length from List.length_map ..]
theorem cN_c (N : List Nd) : cN (cN N) = cN N := by unfold cN; rw [List.map_map]; rfl
theorem cN_len (N : List Nd) : (cN N).length = N.length := List.length_map ..
/-- Ops keep a graph right. -/
def KeepsR (S : OpS) (o : Opx) : Prop := ∀ M T, gErr M T = 0 → S.e o M T = 0 → gErr (S.m o M T) (S.t o M T) = 0
/-- What All gives. -/
def AllPost (S : OpS) (N : List Nd) (T : List Te) (L : List Opx) (w : World) (e : Ending) (w' : World) : Prop :=
  Below w.heap.size w w' ∧ ((S.err L (cN N) T = 0 ∧ ∃ un ut M, e = .returned (.tuple #[.agg #[un, ut], .int .i64 0, .nilIface]) ∧ cN M = (S.res L (cN N) T).1 ∧ OwnNs w' w.heap.size un M ∧ OwnTs w' w.heap.size ut (S.res L (cN N) T).2 ∧ gErr M (S.res L (cN N) T).2 = 0) ∨
   (S.err L (cN N) T ≠ 0 ∧ e = .returned (.tuple #[.agg #[.slice none 0 0, .slice none 0 0], .int .i64 (S.at L (cN N) T), errV (S.err L (cN N) T)])))
/-- Where the loop of All stands. -/
def AlI (S : OpS) (N : List Nd) (T : List Te) (L : List Opx) (W1 : World) (p k : Nat) (wr : World) : Prop := ∃ M U, OG wr W1.heap.size p M U ∧ gErr M U = 0 ∧ S.err L (cN N) T = S.err (L.drop k) (cN M) U ∧ S.at L (cN N) T = k + S.at (L.drop k) (cN M) U ∧ S.res L (cN N) T = S.res (L.drop k) (cN M) U ∧ Below W1.heap.size W1 wr

set_option maxHeartbeats 4000000 in
set_option maxRecDepth 100000 in
theorem all_in (S : OpS) {vn vt vl : Value} {N : List Nd} {T : List Te} {L : List Opx} {w : World} (hN : IsN w vn N) (hT : IsT w vt T) (zN : SzN N) (zT : SzT T) (he : gErr N T = 0) (hL : IsO w vl L) (hl : L.length ≤ 40) (zL : ∀ o ∈ L, OpSz o) (hap : ∀ o ∈ L, ApOk S o) (hri : ∀ o ∈ L, KeepsR S o) :
    Calls Try.prog 21 #[.agg #[vn, vt], vl] w (AllPost S N T L w) := by
  obtain ⟨l60, l120, hcn, _⟩ := gErr_lens he
  obtain ⟨W0, hW0⟩ : ∃ W0, W0 = (w.alloc (.cells #[vn, vt] 25)).alloc (.cells #[.slice none 0 0, .slice none 0 0] 25) := ⟨_, rfl⟩
  have hB0 : Below w.heap.size w W0 := by rw [hW0]; exact b_alloc (b_alloc (Below.refl _ _) _) _
  have hs0 : W0.heap.size = w.heap.size + 2 := by rw [hW0]; simp
  have n0 : W0.heap[w.heap.size]? = some (.cells #[vn, vt] 25 (0, 0)) := by rw [hW0]; exact (heap_alloc_old _ _ (by simp)).trans (heap_alloc_new w _)
  have n1 : W0.heap[w.heap.size + 1]? = some (.cells #[.slice none 0 0, .slice none 0 0] 25 (0, 0)) := by
    have := heap_alloc_new (w.alloc (.cells #[vn, vt] 25)) (.cells #[.slice none 0 0, .slice none 0 0] 25)
    rw [World.size_alloc] at this; rw [hW0]; exact this
  have h8 : ∀ n ∈ N, n.rc.length ≤ 1000 := fun n hn => by have := gErr_rc8 he n hn; omega
  have cG := gcheck_any (hN.on hB0) (hT.on hB0) zN zT (by unfold maxLen; omega) (by unfold maxLen; omega)
  rw [he] at cG
  have cC := fun (W1 : World) (hB : Below W0.heap.size W0 W1) => copied_any (hN.on (on1K hB0 hB (Nat.le_refl _))) (hT.on (on1K hB0 hB (Nat.le_refl _))) l60 l120 h8
  obtain ⟨an, cn, hvn, _⟩ := hN
  obtain ⟨am, cm, hvt, _⟩ := hT
  obtain ⟨ao, co, hvl, hco, hLl⟩ := hL
  subst hvn hvt hvl
  have x0 : W0.cell? ⟨w.heap.size, 0, none⟩ = some (.slice an N.length cn) := cell_at n0 rfl
  have x1 : W0.cell? ⟨w.heap.size, 1, none⟩ = some (.slice am T.length cm) := cell_at n0 rfl
  have HI : Hid (Below w.heap.size w W0 ∧ W0.heap[w.heap.size]? = some (.cells #[.slice an N.length cn, .slice am T.length cm] 25 (0, 0)) ∧ W0.heap[w.heap.size + 1]? = some (.cells #[.slice none 0 0, .slice none 0 0] 25 (0, 0)) ∧ (L = [] ∨ ∃ b off, ao = some ⟨b, off, none⟩ ∧ b < w.heap.size ∧ LiesO w b off L) ∧ gErr N T = 0) := ⟨hB0, n0, n1, hLl, he⟩
  clear hB0 n0 n1 hLl hcn he
  rw [show errV 0 = .nilIface from rfl] at cG
  have hlen : ¬ ((L.length : Int) > 40) := by omega
  go_enter Try.func21, Try.ntmps21
  subst hW0
  go_wp2_with (first | (go_at_call 9; refine cG.mono ?_; rintro e W1 ⟨rfl, hB1⟩; refine Hid.out ?_))
  refine Lib.hid ?_
  have hbw := on1K HI.out.1 hB1 (Nat.le_refl _)
  have n0 := (hB1.block w.heap.size (by rw [hs0]; omega)).trans HI.out.2.1
  have n1 := (hB1.block (w.heap.size + 1) (by rw [hs0]; omega)).trans HI.out.2.2.1
  have cC1 := cC W1 hB1
  have hW1 : w.heap.size + 2 ≤ W1.heap.size := by have := hB1.size; rw [hs0] at this; exact this
  have y0 : W1.cell? ⟨w.heap.size, 0, none⟩ = some (.slice an N.length cn) := cell_at n0 rfl
  have y1 : W1.cell? ⟨w.heap.size, 1, none⟩ = some (.slice am T.length cm) := cell_at n0 rfl
  have HJ : Hid (Below w.heap.size w W1 ∧ W1.heap[w.heap.size + 1]? = some (.cells #[.slice none 0 0, .slice none 0 0] 25 (0, 0)) ∧ (L = [] ∨ ∃ b off, ao = some ⟨b, off, none⟩ ∧ b < w.heap.size ∧ LiesO w b off L) ∧ gErr N T = 0) := ⟨hbw, n1, HI.out.2.2.2.1, HI.out.2.2.2.2⟩
  clear hbw n0 n1 cC hB1 HI cG x0 x1 hs0
  go_wp2_with (first | (go_at_call 35; refine cC1.mono ?_; rintro e W2 ⟨un, ut, M, rfl, hM, hN2, hT2, hB2⟩; refine Hid.out ?_))
  refine Lib.hid ?_
  obtain ⟨a3, c3, hu3⟩ := own_slice hN2.1
  obtain ⟨a4, c4, hu4⟩ := own_slice hT2
  subst hu3 hu4
  have hG3 : OG (W2.alloc (.cells #[.slice a3 M.length c3, .slice a4 T.length c4] 25)) W1.heap.size W2.heap.size M T :=
    ⟨_, _, hB2.size, heap_alloc_new W2 _, hN2.kt (.of_below (b_alloc (Below.refl _ _) _)) (.of_below (b_alloc (Below.refl _ _) _)), hT2.kt (.of_below (b_alloc (Below.refl _ _) _))⟩
  have hg3 : gErr M T = 0 := by rw [← gErr_c, hM, gErr_c]; exact HJ.out.2.2.2
  have HS : Hid (AlI S N T L W1 W2.heap.size 0 (W2.alloc (.cells #[.slice a3 M.length c3, .slice a4 T.length c4] 25))) := ⟨M, T, hG3, hg3, by rw [hM]; rfl, by rw [hM]; simp, by rw [hM]; rfl, b_alloc hB2 _⟩
  clear hG3 hg3 hM hN2 hT2 hB2 cC1 y0 y1
  go_wp2
  go_loopw [27] (fun i wr => ∃ k : Nat, k ≤ L.length ∧ i = .int .i64 k ∧ AlI S N T L W1 W2.heap.size k wr) (fun i _ => L.length - (intOf i).toNat)
  case atStart => exact ⟨0, Nat.zero_le _, rfl, HS.out⟩
  case round =>
    obtain ⟨k, hk, rfl, hA⟩ := hrel
    obtain ⟨M', U, g1, g2, g3, g4, g5, g6⟩ := hA
    have r1 := (g6.block (w.heap.size + 1) (by omega)).trans HJ.out.2.1
    have r0 : wr.cell? ⟨w.heap.size + 1, 0, none⟩ = some (.slice none 0 0) := cell_at r1 rfl
    by_cases hlt : k < L.length
    · obtain ⟨o, ho⟩ : ∃ o, L[k]? = some o := ⟨L[k], by simp [hlt]⟩
      have hom := List.mem_of_getElem? ho
      rcases HJ.out.2.2.1 with h0 | ⟨b, off, hao, hb, hLO⟩
      · rw [h0] at hlt; exact absurd hlt (by simp)
      subst hao
      obtain ⟨hc, hR⟩ := hLO k o ho
      have hbw : Below w.heap.size w wr := on1K HJ.out.1 g6 (Nat.le_refl _)
      have d : ∀ i u, o.cells[i]? = some u → wr.cell? ⟨b, off + k * 11 + i, none⟩ = some u := fun i u hu => (hbw.cell hb).trans (hc i u hu)
      have hX : Below wr.heap.size wr (wr.alloc (.cells #[.int .i64 o.wh, .int .i64 o.nd.id, .string o.nd.kd, o.nd.rv, .string o.pr.nm, .int .i64 o.pr.t, .int .i64 o.pr.n, .string o.pr.s, .string o.te.bd, .int .i64 o.te.fr, .int .i64 o.te.tt] 65)) := b_alloc (Below.refl _ _) _
      have cA := hap o hom _ _ _ _ _ (g1.on hX) (Nat.le_trans g6.size hX.size) g2 (hR.on (on1K hbw hX (Nat.le_refl _))) (zL o hom)
      have hdr : L.drop k = o :: L.drop (k + 1) := by
        obtain ⟨h, rfl⟩ := List.getElem?_eq_some_iff.1 ho
        exact List.drop_eq_getElem_cons h
      rw [hdr] at g3 g4 g5
      have e0 := d 0 _ rfl
      have e1 := d 1 _ rfl
      have e2 := d 2 _ rfl
      have e3 := d 3 _ rfl
      have e4 := d 4 _ rfl
      have e5 := d 5 _ rfl
      have e6 := d 6 _ rfl
      have e7 := d 7 _ rfl
      have e8 := d 8 _ rfl
      have e9 := d 9 _ rfl
      have e10 := d 10 _ rfl
      simp only [Nat.add_zero] at e0
      have HK : Hid (∀ W', Below W1.heap.size (wr.alloc (.cells #[.int .i64 o.wh, .int .i64 o.nd.id, .string o.nd.kd, o.nd.rv, .string o.pr.nm, .int .i64 o.pr.t, .int .i64 o.pr.n, .string o.pr.s, .string o.te.bd, .int .i64 o.te.fr, .int .i64 o.te.tt] 65)) W' → Below W1.heap.size W1 W') := fun W' h' => (g6.trans (hX.mono g6.size)).trans h'
      have hkr := hri o hom
      clear d hc hX hbw hLO
      by_cases hz : S.e o (cN M') U = 0
      · have HZ : Hid (∀ W' M2, Below W1.heap.size W1 W' → cN M2 = S.m o (cN M') U → OG W' W1.heap.size W2.heap.size M2 (S.t o (cN M') U) → AlI S N T L W1 W2.heap.size (k + 1) W') := fun W' M2 hB' hM2 hG' => by
          refine ⟨M2, _, hG', ?_, ?_, ?_, ?_, hB'⟩
          · rw [← gErr_c, hM2]; exact hkr _ _ (by rw [gErr_c]; exact g2) hz
          · rw [g3, hM2]; simp [OpS.err, hz]
          · rw [g4, hM2]; simp [OpS.at, hz]; omega
          · rw [g5, hM2]; simp [OpS.res, hz]
        rw [hz, show errV 0 = .nilIface from rfl] at cA
        clear g1 g2 g3 g4 g5 g6 r1 r0 hap hri zL HS hkr hdr hom ho hk
        obtain ⟨av, lv, cv, hv⟩ := hR.sl
        clear hR
        obtain ⟨wh, ⟨id, kd, rv, rc⟩, ⟨nm, pt, pn, ps⟩, ⟨bd, fr, tt⟩⟩ := o
        simp only at hv e0 e1 e2 e3 e4 e5 e6 e7 e8 e9 e10 HK
        subst hv
        go_wp2_with (first | (go_at_call 36; refine cA.mono ?_; rintro e W' ⟨rfl, h2, hB'⟩))
        obtain ⟨M2, hM2, hG'⟩ := h2 (by trivial)
        refine ⟨⟨k + 1, hlt, ?_, HZ.out W' M2 (HK.out W' hB') hM2 hG'⟩, ?_⟩
        · go_num
        · simp [intOf]
          omega
      · have HZ : Hid (S.err L (cN N) T = S.e o (cN M') U ∧ S.at L (cN N) T = k) := ⟨by rw [g3]; simp [OpS.err, hz], by rw [g4]; simp [OpS.at, hz]⟩
        obtain ⟨z, hzz⟩ : ∃ z, z = S.e o (cN M') U := ⟨_, rfl⟩
        rw [← hzz] at cA hz HZ
        rw [errV_ne hz] at cA
        have HQ : Hid (∀ W', Below W1.heap.size W1 W' → W'.heap[w.heap.size + 1]? = some (.cells #[.slice none 0 0, .slice none 0 0] 25 (0, 0)) ∧ Below w.heap.size w W') := fun W' h' => ⟨(h'.block _ (by omega)).trans HJ.out.2.1, on1K HJ.out.1 h' (Nat.le_refl _)⟩
        have HZ0 : Hid (z ≠ 0) := hz
        clear g1 g2 g3 g4 g5 g6 r1 r0 hap hri zL HS hkr hdr hom ho hk hzz hz
        obtain ⟨av, lv, cv, hv⟩ := hR.sl
        clear hR
        obtain ⟨wh, ⟨id, kd, rv, rc⟩, ⟨nm, pt, pn, ps⟩, ⟨bd, fr, tt⟩⟩ := o
        simp only at hv e0 e1 e2 e3 e4 e5 e6 e7 e8 e9 e10 HK
        subst hv
        go_wp2_with (first | (go_at_call 36; refine cA.mono ?_; rintro e W' ⟨rfl, h2, hB'⟩; obtain ⟨q1, q2⟩ := HQ.out W' (HK.out W' hB'); have t0 : W'.cell? ⟨w.heap.size + 1, 0, none⟩ = some (.slice none 0 0) := cell_at q1 rfl; have t1 : W'.cell? ⟨w.heap.size + 1, 1, none⟩ = some (.slice none 0 0) := cell_at q1 rfl; have f0 : W'.frozen? ⟨w.heap.size + 1, 0, none⟩ = false := frz_at q1; have f1 : W'.frozen? ⟨w.heap.size + 1, 1, none⟩ = false := frz_at q1; have HW' := Lib.hid (And.intro q1 q2); clear q1 q2 h2 hB'))
        have u1 : ((W'.setCell ⟨w.heap.size + 1, 0, none⟩ (.slice none 0 0)).setCell ⟨w.heap.size + 1, 1, none⟩ (.slice none 0 0)).heap[w.heap.size + 1]? = some (.cells #[.slice none 0 0, .slice none 0 0] 25 (0, 0)) := heap_setCell_same _ _ 1 _ 25 _ (heap_setCell_same W' _ 0 _ 25 _ HW'.out.1)
        have v0 : ((W'.setCell ⟨w.heap.size + 1, 0, none⟩ (.slice none 0 0)).setCell ⟨w.heap.size + 1, 1, none⟩ (.slice none 0 0)).cell? ⟨w.heap.size + 1, 0, none⟩ = some (.slice none 0 0) := cell_at u1 rfl
        have v1 : ((W'.setCell ⟨w.heap.size + 1, 0, none⟩ (.slice none 0 0)).setCell ⟨w.heap.size + 1, 1, none⟩ (.slice none 0 0)).cell? ⟨w.heap.size + 1, 1, none⟩ = some (.slice none 0 0) := cell_at u1 rfl
        refine bodyPost_ret (v := .tuple #[.agg #[.slice none 0 0, .slice none 0 0], .int .i64 k, .iface 78 (.int .i64 z)]) ?_ rfl ⟨(HW'.out.2.setCell (by show _ ≤ w.heap.size + 1; omega) _).setCell (by show _ ≤ w.heap.size + 1; omega) _, .inr ⟨by rw [HZ.out.1]; exact HZ0.out, ?_⟩⟩
        · simp [results, Try.results21, go_sem, v0, v1]
        · rw [HZ.out.1, HZ.out.2, errV_ne HZ0.out]
    · have hdr : L.drop k = [] := List.drop_eq_nil_of_le (by omega)
      rw [hdr] at g3 g4 g5
      obtain ⟨vn', vt', o1, o2, o3, o4⟩ := g1
      obtain ⟨a5, c5, hu5⟩ := own_slice o3.1
      obtain ⟨a6, c6, hu6⟩ := own_slice o4
      subst hu5 hu6
      have HZ : Hid (S.err L (cN N) T = 0 ∧ (S.res L (cN N) T) = (cN M', U) ∧ OwnNs wr W1.heap.size (.slice a5 M'.length c5) M' ∧ OwnTs wr W1.heap.size (.slice a6 U.length c6) U ∧ Ty wr (w.heap.size + 1) 25 ∧ Below w.heap.size w wr ∧ gErr M' U = 0) := ⟨g3, g5, o3, o4, ⟨_, r1⟩, on1K HJ.out.1 g6 (Nat.le_refl _), g2⟩
      have p0 : wr.cell? ⟨W2.heap.size, 0, none⟩ = some (.slice a5 M'.length c5) := cell_at o2 rfl
      have p1 : wr.cell? ⟨W2.heap.size, 1, none⟩ = some (.slice a6 U.length c6) := cell_at o2 rfl
      have r2 : wr.cell? ⟨w.heap.size + 1, 1, none⟩ = some (.slice none 0 0) := cell_at r1 rfl
      have f0 : wr.frozen? ⟨w.heap.size + 1, 0, none⟩ = false := frz_at r1
      have f1 : wr.frozen? ⟨w.heap.size + 1, 1, none⟩ = false := frz_at r1
      have u1 : ((wr.setCell ⟨w.heap.size + 1, 0, none⟩ (.slice a5 M'.length c5)).setCell ⟨w.heap.size + 1, 1, none⟩ (.slice a6 U.length c6)).heap[w.heap.size + 1]? = some (.cells #[.slice a5 M'.length c5, .slice a6 U.length c6] 25 (0, 0)) := heap_setCell_same _ _ 1 _ 25 _ (heap_setCell_same wr _ 0 _ 25 _ r1)
      have HU : Hid (((wr.setCell ⟨w.heap.size + 1, 0, none⟩ (.slice a5 M'.length c5)).setCell ⟨w.heap.size + 1, 1, none⟩ (.slice a6 U.length c6)).heap[w.heap.size + 1]? = some (.cells #[.slice a5 M'.length c5, .slice a6 U.length c6] 25 (0, 0))) := u1
      clear u1 g2 g3 g4 g5 g6 r1 hap hri zL HS hdr hk o1 o2 o3 o4
      go_wp2
      obtain ⟨z1, z2, z3, z4, z5, z6, z7⟩ := HZ.out
      have v0 := cell_at (i := 0) HU.out rfl
      have v1 := cell_at (i := 1) HU.out rfl
      have hww : w.heap.size ≤ W1.heap.size := by omega
      refine bodyPost_ret (v := .tuple #[.agg #[.slice a5 M'.length c5, .slice a6 U.length c6], .int .i64 0, .nilIface]) ?_ rfl ⟨(z6.setCell (by show _ ≤ w.heap.size + 1; omega) _).setCell (by show _ ≤ w.heap.size + 1; omega) _, .inl ⟨z1, _, _, M', rfl, by rw [z2], ?_, ?_, by rw [z2]; exact z7⟩⟩
      · simp [results, Try.results21, go_sem, v0, v1]
      · exact ⟨own_base (own_kt z3.1 (((Kt.refl _ _).ty z5 (by decide) _ _).ty (z5.set _ _ _) (by decide) _ _)) hww, fun n hn => own_base ((z3.2 n hn).kt (((Kt.refl _ _).ty z5 (by decide) _ _).ty (z5.set _ _ _) (by decide) _ _)) hww⟩
      · rw [z2]
        exact own_base (z4.kt (((Kt.refl _ _).ty z5 (by decide) _ _).ty (z5.set _ _ _) (by decide) _ _)) hww
end Go.Proofs.Ytelbmianojomgaa
