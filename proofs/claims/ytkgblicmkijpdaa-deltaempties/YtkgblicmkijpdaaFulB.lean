/-
  The walk of many.
-/
import Derived.Test.YtkgblicmkijpdaaFulA
namespace Go.Proofs.Ytkgblicmkijpdaa
open Go.RowKit
set_option linter.unusedVariables false
set_option linter.unusedSimpArgs false

theorem cell_oth {w : World} {b i j : Nat} {u : Value} (h : i ≠ j) : (w.setCell ⟨b, i, none⟩ u).cell? ⟨b, j, none⟩ = w.cell? ⟨b, j, none⟩ := World.cell?_setCell_other _ _ _ _ (by intro e; exact h (by injection e))
/-- What many gives. -/
def ManyP (w : World) (n m : Nat) (e : Ending) (w' : World) : Prop := ∃ an cn am cm, e = .returned (.agg #[.slice an n cn, .slice am m cm]) ∧ RowN w.heap.size w' (.slice an n cn) n ∧ IsT w' (.slice am m cm) (rowT m) ∧ Below w.heap.size w w'
set_option maxHeartbeats 2000000 in
set_option maxRecDepth 100000 in
theorem many_any (n m : Nat) (hn : n ≤ 80) (hm : m ≤ 140) (w : World) : Calls Try.prog 10 #[.int .i64 n, .int .i64 m] w (ManyP w n m) := by
  obtain ⟨i0, hi0, hz0, hz1, hz2⟩ := info_parts infoN
  obtain ⟨i1, ji0, jz0, jz1, jz2⟩ := info_parts infoT
  go_enter Try.func10, Try.ntmps10
  go_wp2
  go_loopw [6] (fun i wr => M1 w n i wr) (fun i _ => n + 1 - (intOf i).toNat)
  case atStart => exact ⟨[], .slice none 0 0, Nat.zero_le _, rfl, World.ownsRow_nil _ _ _ _, (by have := heap_alloc_new (w.alloc (.cells #[.slice none 0 0, .slice none 0 0] 25)) (.cells #[.slice none 0 0, .slice none 0 0] 25); rwa [World.size_alloc] at this), (Below.heap_alloc _ _ _ (by simp)).trans (heap_alloc_new w _), fun j n h => by simp at h, b_alloc (b_alloc (Below.refl _ _) _) _⟩
  case round =>
    obtain ⟨N, v, hk, rfl, hO, hG, hR, hRe, hB⟩ := hrel
    have g0 := cell_of (i := 0) hG rfl
    have f0 := frz_of (i := 0) hG
    have g1 := cell_of (i := 1) hG rfl
    have HH : Hid (Recs wr N ∧ Below w.heap.size w wr ∧ wr.heap[w.heap.size + 1]? = some (.cells #[v, .slice none 0 0] 25 (0, 0)) ∧ wr.heap[w.heap.size]? = some (.cells #[.slice none 0 0, .slice none 0 0] 25 (0, 0))) := ⟨hRe, hB, hG, hR⟩
    have hgl : w.heap.size + 1 < wr.heap.size := (Array.getElem?_eq_some_iff.1 hG).1
    have hgn : ¬ w.heap.size + 1 = wr.heap.size := by omega
    obtain ⟨k, hkk⟩ : ∃ k, N.length = k := ⟨_, rfl⟩
    rw [hkk] at hk hO ⊢
    by_cases hlt : k < n
    · have hle : ((k : Int) + 1 ≤ (n : Int)) := by omega
      have hO' : (wK wr k).ownsRow w.heap.size 30 3 v k (cellsN N) := own_drew (((hO.alloc _).alloc _).alloc _)
      have hcs : ∀ j u, (ndK k (wr.heap.size + 1)).cells[j]? = some u → (wK wr k).cell? ((⟨wr.heap.size + 1 + 1, 0, none⟩ : Addr).add j) = some u := by
        have := new_at ((wr.alloc (.cells #[.int .i64 1, .int .i64 ((k : Int) + 1), .string ⟨#[]⟩] 36)).alloc (.cells #[.string ⟨#[107]⟩, .int .i64 1, .int .i64 ((k : Int) + 1), .string ⟨#[]⟩] 38)) (ndK k (wr.heap.size + 1)).cells 30
        simp only [World.size_alloc] at this
        exact this
      have h1c : ∀ u ∈ (ndK k (wr.heap.size + 1)).cells, u.oneCell' = true := by simp [Nd.cells, Value.oneCell']
      have hbs : w.heap.size ≤ (wK wr k).heap.size := by simp [wK]; omega
      have HO : Hid ((wK wr k).ownsRow w.heap.size 30 3 v k (cellsN N) ∧ (∀ j u, (ndK k (wr.heap.size + 1)).cells[j]? = some u → (wK wr k).cell? ((⟨wr.heap.size + 1 + 1, 0, none⟩ : Addr).add j) = some u) ∧ (∀ u ∈ (ndK k (wr.heap.size + 1)).cells, u.oneCell' = true) ∧ w.heap.size ≤ (wK wr k).heap.size ∧ (k + 1 ≤ maxLen ∧ (k + 1) * 48 ≤ 140737488355328)) := ⟨hO', hcs, h1c, hbs, by unfold maxLen; omega, by omega⟩
      have HK : Hid (∀ w1, (wK wr k).grownBy w1 v.ownBlock → w1.cell? ⟨w.heap.size + 1, 0, none⟩ = some v ∧ w1.frozen? ⟨w.heap.size + 1, 0, none⟩ = false ∧ w1.cell? ⟨w.heap.size + 1, 1, none⟩ = some (.slice none 0 0)) := fun w1 hg1 => by
        have hne := row_apart hO hG (by decide)
        have hbk : w1.heap[w.heap.size + 1]? = some (.cells #[v, .slice none 0 0] 25 (0, 0)) := (hg1.block _ (Nat.lt_of_lt_of_le hgl (bK wr k).size) (fun h => hne h.symm)).trans (((bK wr k).block _ hgl).trans hG)
        exact ⟨cell_of hbk rfl, frz_of hbk, cell_of hbk rfl⟩
      have hx3 : (wK wr k).cell? ⟨w.heap.size + 1, 0, none⟩ = some v := (bK wr k).cell hgl |>.trans g0
      unfold wK at hx3
      have hy3 : (wK wr k).cell? ⟨w.heap.size + 1, 1, none⟩ = some (.slice none 0 0) := (bK wr k).cell hgl |>.trans g1
      unfold wK at hy3
      have hx2 : ((wr.alloc (.cells #[.int .i64 1, .int .i64 ((k : Int) + 1), .string ⟨#[]⟩] 36)).alloc (.cells #[.string ⟨#[107]⟩, .int .i64 1, .int .i64 ((k : Int) + 1), .string ⟨#[]⟩] 38)).drew.cell? ⟨w.heap.size + 1, 0, none⟩ = some v := ((b_drew (b_alloc (b_alloc (Below.refl wr.heap.size wr) _) _)).cell hgl).trans g0
      have hx1 : (wr.alloc (.cells #[.int .i64 1, .int .i64 ((k : Int) + 1), .string ⟨#[]⟩] 36)).drew.cell? ⟨w.heap.size + 1, 0, none⟩ = some v := ((b_drew (b_alloc (Below.refl wr.heap.size wr) _)).cell hgl).trans g0
      have HQ : Hid (N.length = k ∧ wr.ownsRow w.heap.size 30 3 v k (cellsN N)) := ⟨hkk, hO⟩
      have hwi : IntKind.i64.wrap ((k : Int) + 1 + 1) = (k : Int) + 1 + 1 := by rw [IntKind.wrap_i64]; omega
      clear hRe hB hG hR hkk hO hO' hcs h1c hbs
      go_wp2
      go_region_law (first | (go_simp; go_at_call 19; refine (number_any _ _).mono ?_; rintro e W1 ⟨rfl, rfl⟩) | (refine step_append_own rfl (.tmp 14) (.tmp 21) 22 rfl w.heap.size 30 i0 _ 3 48 Try.underlying22 hi0 hz0 hz1 hz2 rfl (by decide) v k (cellsN N) (by simp [Act.eval, Act.put]) HO.out.1 ⟨wr.heap.size + 1 + 1, 0, none⟩ 1 1 (ndK k (wr.heap.size + 1)).cells (by simp [Act.eval, Act.put]) rfl HO.out.2.1 HO.out.2.2.1 HO.out.2.2.2.2.1 HO.out.2.2.2.2.2 HO.out.2.2.2.1 ?_; intro v1 w1 hown1 hgrow1; obtain ⟨q0, q1, q2⟩ := HK.out w1 hgrow1; obtain ⟨a1, c1, rfl⟩ := own_slice hown1))
      all_goals
        have HR2 : Hid (M1 w n (.int .i64 ((k : Int) + 1 + 1)) (w1.setCell ⟨w.heap.size + 1, 0, none⟩ (.slice a1 (k + 1) c1))) := m1_step HQ.out.1 hlt HH.out.1 HH.out.2.1 HH.out.2.2.1 HH.out.2.2.2 HQ.out.2 hown1 hgrow1
        clear hown1 hgrow1
        go_wp2
        refine ⟨?_, ?_⟩
        · first | exact HR2.out | ((repeat apply Exists.intro); refine ⟨?_, rfl⟩; exact HR2.out)
        · simp [intOf]
          try omega
    · obtain rfl : k = n := by omega
      obtain ⟨an, cn, rfl⟩ := own_slice hO
      have HX : Hid (N.length = k ∧ wr.ownsRow w.heap.size 30 3 (.slice an k cn) k (cellsN N) ∧ Recs wr N ∧ wr.heap[w.heap.size]? = some (.cells #[.slice none 0 0, .slice none 0 0] 25 (0, 0))) := ⟨hkk, hO, hRe, hR⟩
      have HS : Hid (wr.heap[w.heap.size + 1]? = some (.cells #[.slice an k cn, .slice none 0 0] 25 (0, 0)) ∧ Below w.heap.size w wr) := ⟨hG, hB⟩
      clear hkk hO hRe hR hB hG HH g0 g1 f0
      obtain ⟨W, hW⟩ : ∃ W, W = wr := ⟨wr, rfl⟩
      subst hW
      go_wp2
      go_loopw [7] (fun i wr => M2 w W (.slice an k cn) m i wr) (fun i _ => m + 1 - (intOf i).toNat)
      case atStart => exact ⟨0, .slice none 0 0, Nat.zero_le _, rfl, World.ownsRow_nil _ _ _ _, HS.out.1, fun _ _ _ => rfl, Nat.le_refl _, HS.out.2⟩
      case round =>
        obtain ⟨j, v2, hj, rfl, hO, hG, hK, hs, hB⟩ := hrel
        obtain ⟨a2, c2, rfl⟩ := own_slice hO
        have g0 := cell_of (i := 0) hG rfl
        have g1 := cell_of (i := 1) hG rfl
        have f1 := frz_of (i := 1) hG
        have hgr : w.heap.size + 1 < wr.heap.size := (Array.getElem?_eq_some_iff.1 hG).1
        have hgn2 : ¬ w.heap.size + 1 = wr.heap.size := by omega
        have HH : Hid (wr.ownsRow W.heap.size 40 3 (.slice a2 j c2) j (cellsT (rowT j)) ∧ wr.heap[w.heap.size + 1]? = some (.cells #[.slice an k cn, .slice a2 j c2] 25 (0, 0)) ∧ (∀ b, b < W.heap.size → b ≠ w.heap.size + 1 → wr.heap[b]? = W.heap[b]?) ∧ W.heap.size ≤ wr.heap.size ∧ Below w.heap.size w wr) := ⟨hO, hG, hK, hs, hB⟩
        by_cases hlt2 : j < m
        · have hle2 : (j : Int) + 1 ≤ (m : Int) := by omega
          have hwj : IntKind.i64.wrap ((j : Int) + 1 + 1) = (j : Int) + 1 + 1 := by rw [IntKind.wrap_i64]; omega
          have HO : Hid ((wr.alloc (.cells #[.string ⟨#[112]⟩, .int .i64 ((j : Int) + 1), .int .i64 ((j : Int) + 1 + 1)] 40)).ownsRow W.heap.size 40 3 (.slice a2 j c2) j (cellsT (rowT j)) ∧ (j + 1 ≤ maxLen ∧ (j + 1) * 32 ≤ 140737488355328) ∧ W.heap.size ≤ (wr.alloc (.cells #[.string ⟨#[112]⟩, .int .i64 ((j : Int) + 1), .int .i64 ((j : Int) + 1 + 1)] 40)).heap.size) := ⟨hO.alloc _, ⟨by unfold maxLen; omega, by omega⟩, by simp; omega⟩
          have HK : Hid (∀ w1, (wr.alloc (.cells #[.string ⟨#[112]⟩, .int .i64 ((j : Int) + 1), .int .i64 ((j : Int) + 1 + 1)] 40)).grownBy w1 (Value.slice a2 j c2).ownBlock → w1.cell? ⟨w.heap.size + 1, 1, none⟩ = some (.slice a2 j c2) ∧ w1.frozen? ⟨w.heap.size + 1, 1, none⟩ = false) := fun w1 hg1 => by
            have hne := row_apart hO hG (by decide)
            have hbk : w1.heap[w.heap.size + 1]? = some (.cells #[.slice an k cn, .slice a2 j c2] 25 (0, 0)) := (hg1.block _ (by simp; omega) (fun h => hne h.symm)).trans ((Below.heap_alloc _ _ _ hgr).trans hG)
            exact ⟨cell_of hbk rfl, frz_of hbk⟩
          clear hO hG hK hs hB
          go_wp2_with (at_builtin; refine wpList_append_own _ rfl (.tmp 30) (.tmp 35) 23 rfl W.heap.size 40 i1 _ 3 32 Try.underlying23 ji0 jz0 jz1 jz2 rfl (by decide) (.slice a2 j c2) j (cellsT (rowT j)) rfl HO.out.1 ⟨wr.heap.size, 0, none⟩ 1 1 (tK j).cells rfl rfl (new_at wr (tK j).cells 40) (by simp [tK, Te.cells, Value.oneCell']) HO.out.2.1.1 HO.out.2.1.2 HO.out.2.2 ?_; intro v1 w1 hown1 hgrow1 _; obtain ⟨q0, q1⟩ := HK.out w1 hgrow1; obtain ⟨a1, c1, rfl⟩ := own_slice hown1)
          have HR2 : Hid (M2 w W (.slice an k cn) m (.int .i64 ((j : Int) + 1 + 1)) (w1.setCell ⟨w.heap.size + 1, 1, none⟩ (.slice a1 (j + 1) c1))) := m2_step hlt2 hgl HH.out.1 HH.out.2.1 HH.out.2.2.1 HH.out.2.2.2.1 HH.out.2.2.2.2 hown1 hgrow1
          refine ⟨?_, ?_⟩
          · first | exact HR2.out | ((repeat apply Exists.intro); refine ⟨?_, rfl⟩; exact HR2.out)
          · simp [intOf]
            try omega
        · obtain rfl : j = m := by omega
          have hR2 : wr.heap[w.heap.size]? = some (.cells #[.slice none 0 0, .slice none 0 0] 25 (0, 0)) := (hK _ (by omega) (by omega)).trans HX.out.2.2.2
          have r0 := cell_of (i := 0) hR2 rfl
          have r1 := cell_of (i := 1) hR2 rfl
          have fr0 := frz_of (i := 0) hR2
          have fr1 := frz_of (i := 1) hR2
          have hfin := many_end HX.out.1 HX.out.2.1 HX.out.2.2.1 HX.out.2.2.2 hgl HS.out.1 HH.out.1 HH.out.2.1 HH.out.2.2.1 HH.out.2.2.2.1 HH.out.2.2.2.2
          have HF : Hid (RowN w.heap.size ((wr.setCell ⟨w.heap.size, 0, none⟩ (.slice an k cn)).setCell ⟨w.heap.size, 1, none⟩ (.slice a2 j c2)) (.slice an k cn) k ∧ IsT ((wr.setCell ⟨w.heap.size, 0, none⟩ (.slice an k cn)).setCell ⟨w.heap.size, 1, none⟩ (.slice a2 j c2)) (.slice a2 j c2) (rowT j) ∧ Below w.heap.size w ((wr.setCell ⟨w.heap.size, 0, none⟩ (.slice an k cn)).setCell ⟨w.heap.size, 1, none⟩ (.slice a2 j c2))) := hfin
          clear hO hG hK hs hB hfin hR2
          have s1 : ((wr.setCell ⟨w.heap.size, 0, none⟩ (.slice an k cn)).setCell ⟨w.heap.size, 1, none⟩ (.slice a2 j c2)).cell? ⟨w.heap.size, 1, none⟩ = some (.slice a2 j c2) := World.cell?_setCell_same' _ _ _ (by rw [cell_oth (by simp), r1]; rfl)
          have s0 : ((wr.setCell ⟨w.heap.size, 0, none⟩ (.slice an k cn)).setCell ⟨w.heap.size, 1, none⟩ (.slice a2 j c2)).cell? ⟨w.heap.size, 0, none⟩ = some (.slice an k cn) := by
            refine (cell_oth (by simp)).trans ?_
            exact World.cell?_setCell_same' _ _ _ (by rw [r0]; rfl)
          have HS01 : Hid (((wr.setCell ⟨w.heap.size, 0, none⟩ (.slice an k cn)).setCell ⟨w.heap.size, 1, none⟩ (.slice a2 j c2)).cell? ⟨w.heap.size, 0, none⟩ = some (.slice an k cn) ∧ ((wr.setCell ⟨w.heap.size, 0, none⟩ (.slice an k cn)).setCell ⟨w.heap.size, 1, none⟩ (.slice a2 j c2)).cell? ⟨w.heap.size, 1, none⟩ = some (.slice a2 j c2)) := ⟨s0, s1⟩
          clear s0 s1
          go_wp2
          refine bodyPost_ret (v := .agg #[.slice an k cn, .slice a2 j c2]) ?_ rfl ⟨an, cn, a2, c2, rfl, HF.out⟩
          obtain ⟨s0, s1⟩ := HS01.out
          simp [results, Try.results10, go_sem, s0, s1]
end Go.Proofs.Ytkgblicmkijpdaa
