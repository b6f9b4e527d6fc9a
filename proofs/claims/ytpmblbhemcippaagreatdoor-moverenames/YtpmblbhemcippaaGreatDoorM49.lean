/-
  The walk of many.
-/
import Derived.Test.YtpmblbhemcippaaGreatDoorM04
import Derived.Test.YtpmblbhemcippaaGreatDoorM42
import Derived.Test.YtpmblbhemcippaaGreatDoorM01
import Derived.LaidEql
import Derived.Stop.Asserts
import Derived.RowKitTokens
import Derived.Laws.Cover1
namespace Go.Proofs.YtpmblbhemcippaaGreatDoor
open Go.RowKit
set_option linter.unusedVariables false
set_option linter.unusedSimpArgs false
theorem cell_oth {w : World} {b i j : Nat} {u : Value} (h : i ≠ j) : (w.setCell ⟨b, i, none⟩ u).cell? ⟨b, j, none⟩ = w.cell? ⟨b, j, none⟩ := World.cell?_setCell_other _ _ _ _ (by intro e; exact h (by injection e))
def ManyP (w : World) (n m : Nat) (e : Ending) (w' : World) : Prop := ∃ an cn am cm, e = .returned (.agg #[.slice an n cn, .slice am m cm]) ∧ RowN w.heap.size w' (.slice an n cn) n ∧ IsT w' (.slice am m cm) (rowT m) ∧ Below w.heap.size w w'
set_option maxHeartbeats 2000000 in
set_option maxRecDepth 100000 in
theorem many_any (n m : Nat) (hn : n ≤ 80) (hm : m ≤ 140) (w : World) : Calls Tryz.prog 4 #[.int .i64 n, .int .i64 m] w (ManyP w n m) := by
  obtain ⟨i0, hi0, hz0, hz1, hz2⟩ := info_parts infoN
  obtain ⟨i1, ji0, jz0, jz1, jz2⟩ := info_parts infoT
  go_enter Tryz.func4, Tryz.ntmps4
  go_wp2
  go_loopw [6] (fun i wr => M1 w n i wr) (fun i _ => n + 1 - (intOf i).toNat)
  case atStart => exact ⟨[], .slice none 0 0, Nat.zero_le _, rfl, World.ownsRow_nil _ _ _ _, (by have := heap_alloc_new (w.alloc (.cells #[.slice none 0 0, .slice none 0 0] 25)) (.cells #[.slice none 0 0, .slice none 0 0] 25); rwa [World.size_alloc] at this), (Below.heap_alloc _ _ _ (by simp)).trans (heap_alloc_new w _), fun j n h => by simp at h, b_alloc (b_alloc (Below.refl _ _) _) _⟩
  case round =>
    obtain ⟨N, v, hk, rfl, hO, hG, hR, hRe, hB⟩ := hrel
    have g0 := cell_of (i := 0) hG rfl
    have f0 := frz_of (i := 0) hG
    have g1 := cell_of (i := 1) hG rfl
    have HH : Hid (Recs wr N ∧ Below w.heap.size w wr ∧ wr.heap[w.heap.size + 1]? = some (.cells #[v, .slice none 0 0] 25 (0, 0)) ∧ wr.heap[w.heap.size]? = some (.cells #[.slice none 0 0, .slice none 0 0] 25 (0, 0))) := ⟨hRe, hB, hG, hR⟩
    have hgl : w.heap.size + 1 < wr.heap.size := (Array.getElem?_eq_some_iff.1 hG).1
    have hgn : ¬ w.heap.size + 1 = wr.heap.size := by omega
    obtain ⟨k, hkk⟩ : ∃ k, N.length = k := ⟨_, rfl⟩
    rw [hkk] at hk hO ⊢
    by_cases hlt : k < n
    · have hle : ((k : Int) + 1 ≤ (n : Int)) := by omega
      have hO' : (wK wr k).ownsRow w.heap.size 57 3 v k (cellsN N) := own_drew (((hO.alloc _).alloc _).alloc _)
      have hcs : ∀ j u, (ndK k (wr.heap.size + 1)).cells[j]? = some u → (wK wr k).cell? ((⟨wr.heap.size + 1 + 1, 0, none⟩ : Addr).add j) = some u := by
        have := new_at ((wr.alloc (.cells #[.int .i64 1, .int .i64 ((k : Int) + 1), .string ⟨#[]⟩] 36)).alloc (.cells #[.string ⟨#[107]⟩, .int .i64 1, .int .i64 ((k : Int) + 1), .string ⟨#[]⟩] 62)) (ndK k (wr.heap.size + 1)).cells 57
        simp only [World.size_alloc] at this
        exact this
      have h1c : ∀ u ∈ (ndK k (wr.heap.size + 1)).cells, u.oneCell' = true := by simp [Nd.cells, Value.oneCell']
      have hbs : w.heap.size ≤ (wK wr k).heap.size := by simp [wK]; omega
      have HO : Hid ((wK wr k).ownsRow w.heap.size 57 3 v k (cellsN N) ∧ (∀ j u, (ndK k (wr.heap.size + 1)).cells[j]? = some u → (wK wr k).cell? ((⟨wr.heap.size + 1 + 1, 0, none⟩ : Addr).add j) = some u) ∧ (∀ u ∈ (ndK k (wr.heap.size + 1)).cells, u.oneCell' = true) ∧ w.heap.size ≤ (wK wr k).heap.size ∧ (k + 1 ≤ maxLen ∧ (k + 1) * 48 ≤ 140737488355328)) := ⟨hO', hcs, h1c, hbs, by unfold maxLen; omega, by omega⟩
      have HK : Hid (∀ w1, (wK wr k).grownBy w1 v.ownBlock → w1.cell? ⟨w.heap.size + 1, 0, none⟩ = some v ∧ w1.frozen? ⟨w.heap.size + 1, 0, none⟩ = false ∧ w1.cell? ⟨w.heap.size + 1, 1, none⟩ = some (.slice none 0 0)) := fun w1 hg1 => by
        have hne := row_apart hO hG (by decide)
        have hbk : w1.heap[w.heap.size + 1]? = some (.cells #[v, .slice none 0 0] 25 (0, 0)) := (hg1.block _ (Nat.lt_of_lt_of_le hgl (bK wr k).size) (fun h => hne h.symm)).trans (((bK wr k).block _ hgl).trans hG)
        exact ⟨cell_of hbk rfl, frz_of hbk, cell_of hbk rfl⟩
      have hx3 : (wK wr k).cell? ⟨w.heap.size + 1, 0, none⟩ = some v := (bK wr k).cell hgl |>.trans g0
      unfold wK at hx3
      have hy3 : (wK wr k).cell? ⟨w.heap.size + 1, 1, none⟩ = some (.slice none 0 0) := (bK wr k).cell hgl |>.trans g1
      unfold wK at hy3
      have hx2 : ((wr.alloc (.cells #[.int .i64 1, .int .i64 ((k : Int) + 1), .string ⟨#[]⟩] 36)).alloc (.cells #[.string ⟨#[107]⟩, .int .i64 1, .int .i64 ((k : Int) + 1), .string ⟨#[]⟩] 62)).drew.cell? ⟨w.heap.size + 1, 0, none⟩ = some v := ((b_drew (b_alloc (b_alloc (Below.refl wr.heap.size wr) _) _)).cell hgl).trans g0
      have hx1 : (wr.alloc (.cells #[.int .i64 1, .int .i64 ((k : Int) + 1), .string ⟨#[]⟩] 36)).drew.cell? ⟨w.heap.size + 1, 0, none⟩ = some v := ((b_drew (b_alloc (Below.refl wr.heap.size wr) _)).cell hgl).trans g0
      have HQ : Hid (N.length = k ∧ wr.ownsRow w.heap.size 57 3 v k (cellsN N)) := ⟨hkk, hO⟩
      have hwi : IntKind.i64.wrap ((k : Int) + 1 + 1) = (k : Int) + 1 + 1 := by rw [IntKind.wrap_i64]; omega
      clear hRe hB hG hR hkk hO hO' hcs h1c hbs
      go_wp2
      go_region_law (first | (go_simp; go_at_call 12; refine (number_any _ _).mono ?_; rintro e W1 ⟨rfl, rfl⟩) | (refine step_append_own rfl (.tmp 14) (.tmp 21) 22 rfl w.heap.size 57 i0 _ 3 48 Tryz.underlying22 hi0 hz0 hz1 hz2 rfl (by decide) v k (cellsN N) (by simp [Act.eval, Act.put]) HO.out.1 ⟨wr.heap.size + 1 + 1, 0, none⟩ 1 1 (ndK k (wr.heap.size + 1)).cells (by simp [Act.eval, Act.put]) rfl HO.out.2.1 HO.out.2.2.1 HO.out.2.2.2.2.1 HO.out.2.2.2.2.2 HO.out.2.2.2.1 ?_; intro v1 w1 hown1 hgrow1; obtain ⟨q0, q1, q2⟩ := HK.out w1 hgrow1; obtain ⟨a1, c1, rfl⟩ := own_slice hown1))
      all_goals
        have HR2 : Hid (M1 w n (.int .i64 ((k : Int) + 1 + 1)) (w1.setCell ⟨w.heap.size + 1, 0, none⟩ (.slice a1 (k + 1) c1))) := m1_step HQ.out.1 hlt HH.out.1 HH.out.2.1 HH.out.2.2.1 HH.out.2.2.2 HQ.out.2 hown1 hgrow1
        clear hown1 hgrow1
        go_wp2
        refine ⟨?_, ?_⟩
        · first | exact HR2.out | ((repeat apply Exists.intro); refine ⟨?_, rfl⟩; exact HR2.out)
        · simp [intOf]
          try omega
    · obtain rfl : k = n := by omega
      obtain ⟨an, cn, rfl⟩ := own_slice hO
      have HX : Hid (N.length = k ∧ wr.ownsRow w.heap.size 57 3 (.slice an k cn) k (cellsN N) ∧ Recs wr N ∧ wr.heap[w.heap.size]? = some (.cells #[.slice none 0 0, .slice none 0 0] 25 (0, 0))) := ⟨hkk, hO, hRe, hR⟩
      have HS : Hid (wr.heap[w.heap.size + 1]? = some (.cells #[.slice an k cn, .slice none 0 0] 25 (0, 0)) ∧ Below w.heap.size w wr) := ⟨hG, hB⟩
      clear hkk hO hRe hR hB hG HH g0 g1 f0
      obtain ⟨W, hW⟩ : ∃ W, W = wr := ⟨wr, rfl⟩
      subst hW
      go_wp2
      go_loopw [7] (fun i wr => M2 w W (.slice an k cn) m i wr) (fun i _ => m + 1 - (intOf i).toNat)
      case atStart => exact ⟨0, .slice none 0 0, Nat.zero_le _, rfl, World.ownsRow_nil _ _ _ _, HS.out.1, fun _ _ _ => rfl, Nat.le_refl _, HS.out.2⟩
      case round =>
        obtain ⟨j, v2, hj, rfl, hO, hG, hK, hs, hB⟩ := hrel
        obtain ⟨a2, c2, rfl⟩ := own_slice hO
        have g0 := cell_of (i := 0) hG rfl
        have g1 := cell_of (i := 1) hG rfl
        have f1 := frz_of (i := 1) hG
        have hgr : w.heap.size + 1 < wr.heap.size := (Array.getElem?_eq_some_iff.1 hG).1
        have hgn2 : ¬ w.heap.size + 1 = wr.heap.size := by omega
        have HH : Hid (wr.ownsRow W.heap.size 64 3 (.slice a2 j c2) j (cellsT (rowT j)) ∧ wr.heap[w.heap.size + 1]? = some (.cells #[.slice an k cn, .slice a2 j c2] 25 (0, 0)) ∧ (∀ b, b < W.heap.size → b ≠ w.heap.size + 1 → wr.heap[b]? = W.heap[b]?) ∧ W.heap.size ≤ wr.heap.size ∧ Below w.heap.size w wr) := ⟨hO, hG, hK, hs, hB⟩
        by_cases hlt2 : j < m
        · have hle2 : (j : Int) + 1 ≤ (m : Int) := by omega
          have hwj : IntKind.i64.wrap ((j : Int) + 1 + 1) = (j : Int) + 1 + 1 := by rw [IntKind.wrap_i64]; omega
          have HO : Hid ((wr.alloc (.cells #[.string ⟨#[112]⟩, .int .i64 ((j : Int) + 1), .int .i64 ((j : Int) + 1 + 1)] 64)).ownsRow W.heap.size 64 3 (.slice a2 j c2) j (cellsT (rowT j)) ∧ (j + 1 ≤ maxLen ∧ (j + 1) * 32 ≤ 140737488355328) ∧ W.heap.size ≤ (wr.alloc (.cells #[.string ⟨#[112]⟩, .int .i64 ((j : Int) + 1), .int .i64 ((j : Int) + 1 + 1)] 64)).heap.size) := ⟨hO.alloc _, ⟨by unfold maxLen; omega, by omega⟩, by simp; omega⟩
          have HK : Hid (∀ w1, (wr.alloc (.cells #[.string ⟨#[112]⟩, .int .i64 ((j : Int) + 1), .int .i64 ((j : Int) + 1 + 1)] 64)).grownBy w1 (Value.slice a2 j c2).ownBlock → w1.cell? ⟨w.heap.size + 1, 1, none⟩ = some (.slice a2 j c2) ∧ w1.frozen? ⟨w.heap.size + 1, 1, none⟩ = false) := fun w1 hg1 => by
            have hne := row_apart hO hG (by decide)
            have hbk : w1.heap[w.heap.size + 1]? = some (.cells #[.slice an k cn, .slice a2 j c2] 25 (0, 0)) := (hg1.block _ (by simp; omega) (fun h => hne h.symm)).trans ((Below.heap_alloc _ _ _ hgr).trans hG)
            exact ⟨cell_of hbk rfl, frz_of hbk⟩
          clear hO hG hK hs hB
          go_wp2_with (at_builtin; refine wpList_append_own _ rfl (.tmp 30) (.tmp 35) 23 rfl W.heap.size 64 i1 _ 3 32 Tryz.underlying23 ji0 jz0 jz1 jz2 rfl (by decide) (.slice a2 j c2) j (cellsT (rowT j)) rfl HO.out.1 ⟨wr.heap.size, 0, none⟩ 1 1 (tK j).cells rfl rfl (new_at wr (tK j).cells 64) (by simp [tK, Te.cells, Value.oneCell']) HO.out.2.1.1 HO.out.2.1.2 HO.out.2.2 ?_; intro v1 w1 hown1 hgrow1 _; obtain ⟨q0, q1⟩ := HK.out w1 hgrow1; obtain ⟨a1, c1, rfl⟩ := own_slice hown1)
          have HR2 : Hid (M2 w W (.slice an k cn) m (.int .i64 ((j : Int) + 1 + 1)) (w1.setCell ⟨w.heap.size + 1, 1, none⟩ (.slice a1 (j + 1) c1))) := m2_step hlt2 hgl HH.out.1 HH.out.2.1 HH.out.2.2.1 HH.out.2.2.2.1 HH.out.2.2.2.2 hown1 hgrow1
          refine ⟨?_, ?_⟩
          · first | exact HR2.out | ((repeat apply Exists.intro); refine ⟨?_, rfl⟩; exact HR2.out)
          · simp [intOf]
            try omega
        · obtain rfl : j = m := by omega
          have hR2 : wr.heap[w.heap.size]? = some (.cells #[.slice none 0 0, .slice none 0 0] 25 (0, 0)) := (hK _ (by omega) (by omega)).trans HX.out.2.2.2
          have r0 := cell_of (i := 0) hR2 rfl
          have r1 := cell_of (i := 1) hR2 rfl
          have fr0 := frz_of (i := 0) hR2
          have fr1 := frz_of (i := 1) hR2
          have hfin := many_end HX.out.1 HX.out.2.1 HX.out.2.2.1 HX.out.2.2.2 hgl HS.out.1 HH.out.1 HH.out.2.1 HH.out.2.2.1 HH.out.2.2.2.1 HH.out.2.2.2.2
          have HF : Hid (RowN w.heap.size ((wr.setCell ⟨w.heap.size, 0, none⟩ (.slice an k cn)).setCell ⟨w.heap.size, 1, none⟩ (.slice a2 j c2)) (.slice an k cn) k ∧ IsT ((wr.setCell ⟨w.heap.size, 0, none⟩ (.slice an k cn)).setCell ⟨w.heap.size, 1, none⟩ (.slice a2 j c2)) (.slice a2 j c2) (rowT j) ∧ Below w.heap.size w ((wr.setCell ⟨w.heap.size, 0, none⟩ (.slice an k cn)).setCell ⟨w.heap.size, 1, none⟩ (.slice a2 j c2))) := hfin
          clear hO hG hK hs hB hfin hR2
          have s1 : ((wr.setCell ⟨w.heap.size, 0, none⟩ (.slice an k cn)).setCell ⟨w.heap.size, 1, none⟩ (.slice a2 j c2)).cell? ⟨w.heap.size, 1, none⟩ = some (.slice a2 j c2) := World.cell?_setCell_same' _ _ _ (by rw [cell_oth (by simp), r1]; rfl)
          have s0 : ((wr.setCell ⟨w.heap.size, 0, none⟩ (.slice an k cn)).setCell ⟨w.heap.size, 1, none⟩ (.slice a2 j c2)).cell? ⟨w.heap.size, 0, none⟩ = some (.slice an k cn) := by
            refine (cell_oth (by simp)).trans ?_
            exact World.cell?_setCell_same' _ _ _ (by rw [r0]; rfl)
          have HS01 : Hid (((wr.setCell ⟨w.heap.size, 0, none⟩ (.slice an k cn)).setCell ⟨w.heap.size, 1, none⟩ (.slice a2 j c2)).cell? ⟨w.heap.size, 0, none⟩ = some (.slice an k cn) ∧ ((wr.setCell ⟨w.heap.size, 0, none⟩ (.slice an k cn)).setCell ⟨w.heap.size, 1, none⟩ (.slice a2 j c2)).cell? ⟨w.heap.size, 1, none⟩ = some (.slice a2 j c2)) := ⟨s0, s1⟩
          clear s0 s1
          go_wp2
          refine bodyPost_ret (v := .agg #[.slice an k cn, .slice a2 j c2]) ?_ rfl ⟨an, cn, a2, c2, rfl, HF.out⟩
          obtain ⟨s0, s1⟩ := HS01.out
          simp [results, Tryz.results4, go_sem, s0, s1]
def fdK : Fd := ⟨[107], 1, true, true⟩
def bdP (mx : Int) : Bd := ⟨[112], [97], [97], 0, mx⟩
def kdA (vo vf : Value) : Kd := ⟨[97], [], [fdK], vo, vf⟩
abbrev simW (w : World) (mx : Int) : World := (((w.alloc (.cells #[.slice (some ⟨w.heap.size + 1 + 1, 0, none⟩) 1 1, .slice (some ⟨w.heap.size + 1 + 1 + 1, 0, none⟩) 1 1] 46)).alloc (.cells #[.string ⟨#[107]⟩, .int .i64 1, .bool true, .bool true] 28)).alloc (.cells #[.string ⟨#[97]⟩, .slice none 0 0, .slice (some ⟨w.heap.size + 1, 0, none⟩) 1 1] 32)).alloc (.cells #[.string ⟨#[112]⟩, .string ⟨#[97]⟩, .string ⟨#[97]⟩, .int .i64 0, .int .i64 mx] 34)
set_option maxHeartbeats 1000000 in
theorem simple_any (mx : Int) (w : World) : Calls Tryz.prog 6 #[.int .i64 mx] w fun e w' => e = .returned (.agg #[.slice (some ⟨w.heap.size + 1 + 1, 0, none⟩) 1 1, .slice (some ⟨w.heap.size + 1 + 1 + 1, 0, none⟩) 1 1]) ∧ w' = simW w mx := by
  go_enter Tryz.func6, Tryz.ntmps6
  go_wp2
  refine bodyPost_ret (v := .agg #[.slice (some ⟨w.heap.size + 1 + 1, 0, none⟩) 1 1, .slice (some ⟨w.heap.size + 1 + 1 + 1, 0, none⟩) 1 1]) ?_ rfl ?_
  · simp [results, Tryz.results6, go_sem]
  · exact ⟨rfl, rfl⟩
theorem simple_sc (mx : Int) (w : World) : Calls Tryz.prog 6 #[.int .i64 mx] w fun e w' => ∃ vs vo vf, e = .returned vs ∧ IsSc w' vs [kdA vo vf] [bdP mx] ∧ Below w.heap.size w w' := by
  refine (simple_any mx w).mono ?_
  rintro e w' ⟨rfl, rfl⟩
  have hB : Below w.heap.size w (simW w mx) := b_allocKC (b_allocKC (b_allocKC (b_allocKC (Below.refl _ _) (Nat.le_refl _) _) (Nat.le_refl _) _) (Nat.le_refl _) _) (Nat.le_refl _) _
  have hF : (simW w mx).heap[w.heap.size + 1]? = some (.cells #[.string ⟨#[107]⟩, .int .i64 1, .bool true, .bool true] 28 (0, 0)) := by
    have := heap_alloc_new (w.alloc (.cells #[.slice (some ⟨w.heap.size + 1 + 1, 0, none⟩) 1 1, .slice (some ⟨w.heap.size + 1 + 1 + 1, 0, none⟩) 1 1] 46)) (.cells #[.string ⟨#[107]⟩, .int .i64 1, .bool true, .bool true] 28)
    rw [World.size_alloc] at this
    exact (Below.heap_alloc _ _ _ (by simp)).trans ((Below.heap_alloc _ _ _ (by simp)).trans this)
  have hK : (simW w mx).heap[w.heap.size + 1 + 1]? = some (.cells #[.string ⟨#[97]⟩, .slice none 0 0, .slice (some ⟨w.heap.size + 1, 0, none⟩) 1 1] 32 (0, 0)) := by
    have := heap_alloc_new ((w.alloc (.cells #[.slice (some ⟨w.heap.size + 1 + 1, 0, none⟩) 1 1, .slice (some ⟨w.heap.size + 1 + 1 + 1, 0, none⟩) 1 1] 46)).alloc (.cells #[.string ⟨#[107]⟩, .int .i64 1, .bool true, .bool true] 28)) (.cells #[.string ⟨#[97]⟩, .slice none 0 0, .slice (some ⟨w.heap.size + 1, 0, none⟩) 1 1] 32)
    rw [World.size_alloc, World.size_alloc] at this
    exact (Below.heap_alloc _ _ _ (by simp)).trans this
  have hP : (simW w mx).heap[w.heap.size + 1 + 1 + 1]? = some (.cells #[.string ⟨#[112]⟩, .string ⟨#[97]⟩, .string ⟨#[97]⟩, .int .i64 0, .int .i64 mx] 34 (0, 0)) := by
    have := heap_alloc_new (((w.alloc (.cells #[.slice (some ⟨w.heap.size + 1 + 1, 0, none⟩) 1 1, .slice (some ⟨w.heap.size + 1 + 1 + 1, 0, none⟩) 1 1] 46)).alloc (.cells #[.string ⟨#[107]⟩, .int .i64 1, .bool true, .bool true] 28)).alloc (.cells #[.string ⟨#[97]⟩, .slice none 0 0, .slice (some ⟨w.heap.size + 1, 0, none⟩) 1 1] 32)) (.cells #[.string ⟨#[112]⟩, .string ⟨#[97]⟩, .string ⟨#[97]⟩, .int .i64 0, .int .i64 mx] 34)
    rw [World.size_alloc, World.size_alloc, World.size_alloc] at this
    exact this
  have one : ∀ {α : Type} {a x : α} {i : Nat}, [a][i]? = some x → i = 0 ∧ a = x := fun {α a x i} h => by
    match i with
    | 0 => exact ⟨rfl, by simpa using h⟩
    | i + 1 => simp at h
  refine ⟨_, .slice none 0 0, .slice (some ⟨w.heap.size + 1, 0, none⟩) 1 1, rfl, ⟨_, _, rfl, .inr ⟨w.heap.size + 1 + 1, 0, 1, rfl, Nat.le_refl _, by unfold maxLen; omega, (Array.getElem?_eq_some_iff.1 hK).1, fun i k hk => ?_⟩, fun k hk => ?_, fun k hk => ?_, .inr ⟨w.heap.size + 1 + 1 + 1, 0, 1, rfl, Nat.le_refl _, by unfold maxLen; omega, (Array.getElem?_eq_some_iff.1 hP).1, fun i x hx => ?_⟩, fun x hx => ?_⟩, hB⟩
  · obtain ⟨rfl, rfl⟩ := one hk
    exact ⟨cell_atC hK rfl, cell_atC hK rfl, cell_atC hK rfl⟩
  · obtain rfl := List.mem_singleton.1 hk
    refine ⟨.inl ⟨none, 0, rfl, rfl, Nat.zero_le _, fun _ => rfl⟩, .inr ⟨w.heap.size + 1, 0, 1, rfl, Nat.le_refl _, by unfold maxLen; omega, (Array.getElem?_eq_some_iff.1 hF).1, fun i f hf => ?_⟩⟩
    obtain ⟨rfl, rfl⟩ := one hf
    exact ⟨cell_atC hF rfl, cell_atC hF rfl, cell_atC hF rfl, cell_atC hF rfl⟩
  · obtain rfl := List.mem_singleton.1 hk
    refine ⟨by show (1 : Nat) ≤ maxLen; decide, fun f hf => ?_⟩
    obtain rfl := List.mem_singleton.1 hf
    show (1 : Nat) ≤ maxLen
    decide
  · obtain ⟨rfl, rfl⟩ := one hx
    exact ⟨cell_atC hP rfl, cell_atC hP rfl, cell_atC hP rfl, cell_atC hP rfl, cell_atC hP rfl⟩
  · obtain rfl := List.mem_singleton.1 hx
    show (1 : Nat) ≤ maxLen
    decide
end Go.Proofs.YtpmblbhemcippaaGreatDoor
namespace Go.Proofs.YtpmblbhemcippaaGreatDoor
open Go.RowKit Go.Extern.Stop Go.Stop Go.Extern
set_option linter.unusedVariables false
set_option linter.unusedSimpArgs false
abbrev Hnd (w : World) : Prop := w.cell? ⟨0, 0, none⟩ = some (.iface 149 (.agg #[.pointer (some ⟨2, 40, none⟩)]))

theorem asValue56 (t : Addr) (w : World) : (ReflectliteValue.unpack (.iface 94 (.pointer (some t)))).run Tryz.prog w = .ok (.agg #[.pointer (some ⟨2, 94, none⟩), .pointer (some ⟨w.heap.size, 0, none⟩), .int .u64 150]) (w.alloc (.cells #[.pointer (some t)] 94)) := by kernel_rfl
theorem asValue44 (x : Int) (w : World) : (ReflectliteValue.unpack (.iface 71 (.int .i64 x))).run Tryz.prog w = .ok (.agg #[.pointer (some ⟨2, 71, none⟩), .pointer (some ⟨w.heap.size, 0, none⟩), .int .u64 130]) (w.alloc (.cells #[.int .i64 x] 71)) := by kernel_rfl
theorem asType56 (a : Addr) (w : World) : (ReflectliteValue.methodAny (ReflectliteValue.valueError "reflectlite.Value.Type" 0) (fun t _ _ _ => ReflectliteType.toType t) #[(.agg #[.pointer (some ⟨2, 94, none⟩), .pointer (some a), .int .u64 150])]).run Tryz.prog w = .ok (.iface 149 (.agg #[.pointer (some ⟨2, 94, none⟩)])) w := by kernel_rfl
theorem asKind (h : Value) (w : World) : (Go.method 388 149 (.agg #[h]) "Kind").run Tryz.prog w = .ok (182, h) w := by kernel_rfl
theorem asElem (h : Value) (w : World) : (Go.method 388 149 (.agg #[h]) "Elem").run Tryz.prog w = .ok (192, .agg #[h]) w := by kernel_rfl
theorem asImpl (h : Value) (w : World) : (Go.method 388 149 (.agg #[h]) "Implements").run Tryz.prog w = .ok (193, .agg #[h]) w := by kernel_rfl
theorem asAssign (h : Value) (w : World) : (Go.method 388 149 (.agg #[h]) "AssignableTo").run Tryz.prog w = .ok (190, .agg #[h]) w := by kernel_rfl
theorem asKind56 (w : World) : ((ReflectliteType.abiMethod fun t => (fun a : Nat => Value.int IntKind.u8 (a : Int)) <$> Rtype.kind t) #[.pointer (some ⟨2, 94, none⟩)]).run Tryz.prog w = .ok (.int .u8 22) w := by kernel_rfl
theorem asKind44 (w : World) : ((ReflectliteType.abiMethod fun t => (fun a : Nat => Value.int IntKind.u8 (a : Int)) <$> Rtype.kind t) #[.pointer (some ⟨2, 71, none⟩)]).run Tryz.prog w = .ok (.int .u8 2) w := by kernel_rfl
theorem asElem56 (w : World) : (ReflectliteType.method ReflectliteType.elem #[(.agg #[.pointer (some ⟨2, 94, none⟩)])]).run Tryz.prog w = .ok (.iface 149 (.agg #[.pointer (some ⟨2, 71, none⟩)])) w := by kernel_rfl
theorem asImpl44 (w : World) : (ReflectliteType.relation "Implements" ReflectliteType.implements_ #[(.agg #[.pointer (some ⟨2, 71, none⟩)]), .iface 149 (.agg #[.pointer (some ⟨2, 40, none⟩)])]).run Tryz.prog w = .ok (.bool true) w := by kernel_rfl
theorem asTypeOf44 (v : Value) (w : World) : (ReflectliteType.typeOf #[.iface 71 v]).run Tryz.prog w = .ok (.iface 149 (.agg #[.pointer (some ⟨2, 71, none⟩)])) w := by kernel_rfl
theorem asAssign44 (w : World) : (ReflectliteType.relation "AssignableTo" ReflectliteType.assignableTo #[(.agg #[.pointer (some ⟨2, 71, none⟩)]), .iface 149 (.agg #[.pointer (some ⟨2, 71, none⟩)])]).run Tryz.prog w = .ok (.bool true) w := by kernel_rfl
theorem asParts56 (a : Addr) (w : World) : (ReflectliteValue.parts (.agg #[.pointer (some ⟨2, 94, none⟩), .pointer (some a), .int .u64 150])).run Tryz.prog w = .ok (some (94, a, 150)) w := by kernel_rfl
theorem asParts44 (a : Addr) (w : World) : (ReflectliteValue.parts (.agg #[.pointer (some ⟨2, 71, none⟩), .pointer (some a), .int .u64 130])).run Tryz.prog w = .ok (some (71, a, 130)) w := by kernel_rfl
theorem asParts44a (a : Addr) (w : World) : (ReflectliteValue.parts (.agg #[.pointer (some ⟨2, 71, none⟩), .pointer (some a), .int .u64 386])).run Tryz.prog w = .ok (some (71, a, 386)) w := by kernel_rfl
theorem asElemOf (w : World) : (Rtype.elem? 94).run Tryz.prog w = .ok (some 71) w := by kernel_rfl
theorem asMk (p : Addr) (w : World) : (ReflectliteValue.mk 71 p ReflectliteValue.flagAddr).run Tryz.prog w = .ok (.agg #[.pointer (some ⟨2, 71, none⟩), .pointer (some p), .int .u64 386]) w := by kernel_rfl
theorem asDirect (w : World) : (Rtype.directlyAssignable 71 71).run Tryz.prog w = .ok true w := by kernel_rfl

theorem asIsNil (a p : Addr) (W : World) (ha : W.cell? a = some (.pointer (some p))) :
    (ReflectliteValue.method (ReflectliteValue.valueError "reflectlite.Value.IsNil" 0) ReflectliteValue.isNil #[(.agg #[.pointer (some ⟨2, 94, none⟩), .pointer (some a), .int .u64 150])]).run Tryz.prog W = .ok (.bool false) W := by
  rw [show ReflectliteValue.method _ _ #[(.agg #[.pointer (some ⟨2, 94, none⟩), .pointer (some a), .int .u64 150])] = (ReflectliteValue.parts (.agg #[.pointer (some ⟨2, 94, none⟩), .pointer (some a), .int .u64 150]) >>= fun _ => _) from rfl]
  simp only [Sem.run_bind, asParts56, Result.andThen]
  simp [ReflectliteValue.isNil, loadVar, isAgg, underlying, Tryz.underlying94, ha, Result.andThen]
theorem asElemV (a p : Addr) (W : World) (ha : W.cell? a = some (.pointer (some p))) :
    (ReflectliteValue.method (ReflectliteValue.valueError "reflectlite.Value.Elem" 0) ReflectliteValue.elem #[(.agg #[.pointer (some ⟨2, 94, none⟩), .pointer (some a), .int .u64 150])]).run Tryz.prog W = .ok (.agg #[.pointer (some ⟨2, 71, none⟩), .pointer (some p), .int .u64 386]) W := by
  rw [show ReflectliteValue.method _ _ #[(.agg #[.pointer (some ⟨2, 94, none⟩), .pointer (some a), .int .u64 150])] = (ReflectliteValue.parts (.agg #[.pointer (some ⟨2, 94, none⟩), .pointer (some a), .int .u64 150]) >>= fun _ => _) from rfl]
  simp only [Sem.run_bind, asParts56, Result.andThen]
  simp [ReflectliteValue.elem, loadVar, isAgg, underlying, Tryz.underlying94, ha, Result.andThen, asElemOf, asMk]
theorem asSet (ta b : Addr) (x : Int) (old : Value) (W : World) (hb : W.cell? b = some (.int .i64 x)) (ht : W.cell? ta = some old) (hf : W.frozen? ta = false) :
    (ReflectliteValue.set #[(.agg #[.pointer (some ⟨2, 71, none⟩), .pointer (some ta), .int .u64 386]), (.agg #[.pointer (some ⟨2, 71, none⟩), .pointer (some b), .int .u64 130])]).run Tryz.prog W = .ok (.tuple #[]) (W.setCell ta (.int .i64 x)) := by
  rw [show ReflectliteValue.set #[(.agg #[.pointer (some ⟨2, 71, none⟩), .pointer (some ta), .int .u64 386]), (.agg #[.pointer (some ⟨2, 71, none⟩), .pointer (some b), .int .u64 130])] = (ReflectliteValue.parts (.agg #[.pointer (some ⟨2, 71, none⟩), .pointer (some ta), .int .u64 386]) >>= fun _ => ReflectliteValue.parts (.agg #[.pointer (some ⟨2, 71, none⟩), .pointer (some b), .int .u64 130]) >>= fun _ => _) from rfl]
  simp only [Sem.run_bind, asParts44a, asParts44, Result.andThen]
  simp [asParts44a, asParts44, ReflectliteValue.flagAddr, loadVar, isAgg, underlying, Tryz.underlying71, hb, Result.andThen, asDirect, storeVar, Value.cells, storeCells, Addr.add]
  rw [run_store Tryz.prog W ta _ _ (by rfl)]
  simp [ht, hf]

set_option maxHeartbeats 4000000 in
theorem as_hit (x : Int) (t : Addr) (old : Value) (w : World) (hg : Hnd w) (ht0 : w.cell? t = some old) (hf0 : w.frozen? t = false) :
    Calls Tryz.prog 28 #[.iface 71 (.int .i64 x), .iface 94 (.pointer (some t))] w fun ev w' => ev = .returned (.bool true) ∧ w' = ((((w.alloc (.cells #[.pointer (some t)] 94)).alloc (.cells #[.pointer (some ⟨2, 94, none⟩), .pointer (some ⟨w.heap.size, 0, none⟩), .int .u64 150] 118)).alloc (.cells #[.pointer (some ⟨2, 94, none⟩), .pointer (some ⟨w.heap.size, 0, none⟩), .int .u64 150] 118)).alloc (.cells #[.int .i64 x] 71)).setCell t (.int .i64 x) := by
  have h6 := @run_callFunc_extern Tryz.prog 43 _ (fun args => ReflectliteValue.unpack (args.getD 0 (.tuple #[]))) Tryz.func43 (by kernel_rfl) (by kernel_rfl) (by kernel_rfl) (by kernel_rfl)
  have h7 := @run_callFunc_extern Tryz.prog 44 _ (ReflectliteValue.methodAny (ReflectliteValue.valueError "reflectlite.Value.Type" 0) (fun t _ _ _ => ReflectliteType.toType t)) Tryz.func44 (by kernel_rfl) (by kernel_rfl) (by kernel_rfl) (by kernel_rfl)
  have h8 := @run_callFunc_extern Tryz.prog 45 _ (ReflectliteValue.method (ReflectliteValue.valueError "reflectlite.Value.IsNil" 0) ReflectliteValue.isNil) Tryz.func45 (by kernel_rfl) (by kernel_rfl) (by kernel_rfl) (by kernel_rfl)
  have h27 := @run_callFunc_extern Tryz.prog 182 _ (ReflectliteType.abiMethod fun t => do pure (.int .u8 (← Rtype.kind t))) Tryz.func182 (by kernel_rfl) (by kernel_rfl) (by kernel_rfl) (by kernel_rfl)
  have h37 := @run_callFunc_extern Tryz.prog 192 _ (ReflectliteType.method ReflectliteType.elem) Tryz.func192 (by kernel_rfl) (by kernel_rfl) (by kernel_rfl) (by kernel_rfl)
  have h38 := @run_callFunc_extern Tryz.prog 193 _ (ReflectliteType.relation "Implements" ReflectliteType.implements_) Tryz.func193 (by kernel_rfl) (by kernel_rfl) (by kernel_rfl) (by kernel_rfl)
  have h10 := @run_callFunc_extern Tryz.prog 65 _ ReflectliteType.typeOf Tryz.func65 (by kernel_rfl) (by kernel_rfl) (by kernel_rfl) (by kernel_rfl)
  have h35 := @run_callFunc_extern Tryz.prog 190 _ (ReflectliteType.relation "AssignableTo" ReflectliteType.assignableTo) Tryz.func190 (by kernel_rfl) (by kernel_rfl) (by kernel_rfl) (by kernel_rfl)
  have h11 := @run_callFunc_extern Tryz.prog 66 _ (ReflectliteValue.method (ReflectliteValue.valueError "reflectlite.Value.Elem" 0) ReflectliteValue.elem) Tryz.func66 (by kernel_rfl) (by kernel_rfl) (by kernel_rfl) (by kernel_rfl)
  have h12 := @run_callFunc_extern Tryz.prog 67 _ ReflectliteValue.set Tryz.func67 (by kernel_rfl) (by kernel_rfl) (by kernel_rfl) (by kernel_rfl)
  have tO := asTypeOf44
  have mA := asAssign
  have a25 := asAssign44
  have v25 := asValue44
  have f6 := asValue56
  have f7 := asType56
  have mK := asKind
  have mE := asElem
  have mI := asImpl
  have k27 := asKind56
  have k25 := asKind44
  have e27 := asElem56
  have i25 := asImpl44
  have n8 := asIsNil ⟨w.heap.size, 0, none⟩ t ((w.alloc (.cells #[.pointer (some t)] 94)).alloc (.cells #[.pointer (some ⟨2, 94, none⟩), .pointer (some ⟨w.heap.size, 0, none⟩), .int .u64 150] 118)) (by simp)
  have hlt : 0 < w.heap.size := by
    rcases Nat.eq_zero_or_pos w.heap.size with h0 | h
    · have hg' : w.cell? ⟨0, 0, none⟩ = _ := hg
      simp [World.cell?, h0] at hg'
    · exact h
  have hg2 : ((w.alloc (.cells #[.pointer (some t)] 94)).alloc (.cells #[.pointer (some ⟨2, 94, none⟩), .pointer (some ⟨w.heap.size, 0, none⟩), .int .u64 150] 118)).cell? ⟨0, 0, none⟩ = some (.iface 149 (.agg #[.pointer (some ⟨2, 40, none⟩)])) := by
    rw [World.cell?_alloc_lt _ _ ⟨0, 0, none⟩ (by simp), World.cell?_alloc_lt _ _ ⟨0, 0, none⟩ hlt]; exact hg
  have htl : t.block < w.heap.size := by
    rcases Nat.lt_or_ge t.block w.heap.size with h | h
    · exact h
    · simp [World.cell?, Array.getElem?_eq_none h] at ht0
  have el := asElemV ⟨w.heap.size, 0, none⟩ t (((w.alloc (.cells #[.pointer (some t)] 94)).alloc (.cells #[.pointer (some ⟨2, 94, none⟩), .pointer (some ⟨w.heap.size, 0, none⟩), .int .u64 150] 118)).alloc (.cells #[.pointer (some ⟨2, 94, none⟩), .pointer (some ⟨w.heap.size, 0, none⟩), .int .u64 150] 118)) (by rw [World.cell?_alloc_lt _ _ ⟨w.heap.size, 0, none⟩ (by simp; omega)]; simp)
  have st := asSet t ⟨w.heap.size + 1 + 1 + 1, 0, none⟩ x old ((((w.alloc (.cells #[.pointer (some t)] 94)).alloc (.cells #[.pointer (some ⟨2, 94, none⟩), .pointer (some ⟨w.heap.size, 0, none⟩), .int .u64 150] 118)).alloc (.cells #[.pointer (some ⟨2, 94, none⟩), .pointer (some ⟨w.heap.size, 0, none⟩), .int .u64 150] 118)).alloc (.cells #[.int .i64 x] 71))
    (by rw [World.cell?_alloc_at _ _ _ _ (by simp)]; rfl)
    (by rw [World.cell?_alloc_lt _ _ t (by simp; omega), World.cell?_alloc_lt _ _ t (by simp; omega), World.cell?_alloc_lt _ _ t (by simp; omega), World.cell?_alloc_lt _ _ t htl]; exact ht0)
    (by rw [World.frozen?_alloc_old _ _ t (by simp; omega), World.frozen?_alloc_old _ _ t (by simp; omega), World.frozen?_alloc_old _ _ t (by simp; omega), World.frozen?_alloc_old _ _ t (Nat.ne_of_lt htl)]; exact hf0)
  go_enter Tryz.func28, Tryz.ntmps28
  go_wp2
  refine wp_loop_rounds 1 ?_
  rw [rounds_succ]
  go_wp2
  go_ret
  exact ⟨rfl, rfl⟩
end Go.Proofs.YtpmblbhemcippaaGreatDoor
namespace Go.Proofs.YtpmblbhemcippaaGreatDoor
open Go.RowKit
set_option linter.unusedVariables false
set_option linter.unusedSimpArgs false
theorem told_nil (w : World) : Calls Tryz.prog 17 #[.nilIface] w fun e w' => e = .returned (.int .i64 0) ∧ w' = w := by
  go_enter Tryz.func17, Tryz.ntmps17
  go_wp2
  go_ret
  exact ⟨rfl, rfl⟩
set_option maxHeartbeats 1000000 in
theorem told_err (x : Int) (w : World) (hg : Hnd w) : Calls Tryz.prog 17 #[.iface 71 (.int .i64 x)] w fun e w' => e = .returned (.int .i64 x) ∧ Below w.heap.size w w' := by
  have hlt : 0 < w.heap.size := by
    rcases Nat.eq_zero_or_pos w.heap.size with h0 | h
    · have hg' : w.cell? ⟨0, 0, none⟩ = _ := hg
      simp [World.cell?, h0] at hg'
    · exact h
  have hgA : Hnd (w.alloc (.cells #[.int .i64 0] 71)) := by
    show (w.alloc (.cells #[.int .i64 0] 71)).cell? ⟨0, 0, none⟩ = _
    rw [World.cell?_alloc_lt _ _ ⟨0, 0, none⟩ hlt]; exact hg
  have htA : (w.alloc (.cells #[.int .i64 0] 71)).cell? ⟨w.heap.size, 0, none⟩ = some (.int .i64 0) := by simp
  have hfA : (w.alloc (.cells #[.int .i64 0] 71)).frozen? ⟨w.heap.size, 0, none⟩ = false := by simp
  clear hg hlt
  go_enter Tryz.func17, Tryz.ntmps17
  go_wp2_with (go_at_call 28; refine (as_hit x _ (.int .i64 0) _ hgA htA hfA).mono ?_; rintro e w' ⟨rfl, rfl⟩)
  go_ret
  refine ⟨rfl, ?_⟩
  exact (((((Below.refl _ w).alloc (Nat.le_refl _) _).alloc (by simp) _).alloc (by simp; omega) _).alloc (by simp; omega) _).alloc (by simp; omega) _
theorem told_any (x : Int) (w : World) (hg : Hnd w) : Calls Tryz.prog 17 #[errV x] w fun e w' => e = .returned (.int .i64 x) ∧ Below w.heap.size w w' := by
  by_cases h : x = 0
  · subst h
    refine (told_nil w).mono ?_
    rintro e w' ⟨rfl, rfl⟩
    exact ⟨rfl, Below.refl _ _⟩
  · rw [errV_ne h]; exact told_err x w hg
theorem error_any (x : Int) (w : World) (hg : Hnd w) : Calls Tryz.prog 8 #[errV x, .int .i64 x] w fun e w' => e = .returned (.bool true) ∧ Below w.heap.size w w' := by
  go_enter Tryz.func8, Tryz.ntmps8
  go_wp2_with (go_at_call 17; refine (told_any x _ hg).mono ?_; rintro e w' ⟨rfl, hb⟩)
  go_ret
  exact ⟨ret_bool (by simp), hb⟩
end Go.Proofs.YtpmblbhemcippaaGreatDoor
