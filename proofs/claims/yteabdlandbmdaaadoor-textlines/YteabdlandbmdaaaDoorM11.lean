/-
  The walk of many.
-/
import Derived.Test.YteabdlandbmdaaaDoorM06
import Derived.Test.YteabdlandbmdaaaDoorM10
namespace Go.Proofs.YteabdlandbmdaaaDoor
open Go.RowKit
set_option linter.unusedVariables false
set_option linter.unusedSimpArgs false

theorem cell_oth {w : World} {b i j : Nat} {u : Value} (h : i ≠ j) : (w.setCell ⟨b, i, none⟩ u).cell? ⟨b, j, none⟩ = w.cell? ⟨b, j, none⟩ := World.cell?_setCell_other _ _ _ _ (by intro e; exact h (by injection e))
def ManyP (w : World) (n m : Nat) (e : Ending) (w' : World) : Prop := ∃ an cn am cm, e = .returned (.agg #[.slice an n cn, .slice am m cm]) ∧ RowN w.heap.size w' (.slice an n cn) n ∧ IsT w' (.slice am m cm) (rowT m) ∧ Below w.heap.size w w'
set_option maxHeartbeats 2000000 in
set_option maxRecDepth 100000 in
theorem many_any (n m : Nat) (hn : n ≤ 80) (hm : m ≤ 140) (w : World) : Calls Tryd.prog 5 #[.int .i64 n, .int .i64 m] w (ManyP w n m) := by
  obtain ⟨i0, hi0, hz0, hz1, hz2⟩ := info_parts infoN
  obtain ⟨i1, ji0, jz0, jz1, jz2⟩ := info_parts infoT
  go_enter Tryd.func5, Tryd.ntmps5
  go_wp2
  go_loopw [6] (fun i wr => M1 w n i wr) (fun i _ => n + 1 - (intOf i).toNat)
  case atStart => exact ⟨[], .slice none 0 0, Nat.zero_le _, rfl, World.ownsRow_nil _ _ _ _, (by have := heap_alloc_new (w.alloc (.cells #[.slice none 0 0, .slice none 0 0] 25)) (.cells #[.slice none 0 0, .slice none 0 0] 25); rwa [World.size_alloc] at this), (Below.heap_alloc _ _ _ (by simp)).trans (heap_alloc_new w _), fun j n h => by simp at h, b_alloc (b_alloc (Below.refl _ _) _) _⟩
  case round =>
    obtain ⟨N, v, hk, rfl, hO, hG, hR, hRe, hB⟩ := hrel
    have g0 := cell_of (i := 0) hG rfl
    have f0 := frz_of (i := 0) hG
    have g1 := cell_of (i := 1) hG rfl
    have HH : Hid (Recs wr N ∧ Below w.heap.size w wr ∧ wr.heap[w.heap.size + 1]? = some (.cells #[v, .slice none 0 0] 25 (0, 0)) ∧ wr.heap[w.heap.size]? = some (.cells #[.slice none 0 0, .slice none 0 0] 25 (0, 0))) := ⟨hRe, hB, hG, hR⟩
    have hgl : w.heap.size + 1 < wr.heap.size := (Array.getElem?_eq_some_iff.1 hG).1
    have hgn : ¬ w.heap.size + 1 = wr.heap.size := by omega
    obtain ⟨k, hkk⟩ : ∃ k, N.length = k := ⟨_, rfl⟩
    rw [hkk] at hk hO ⊢
    by_cases hlt : k < n
    · have hle : ((k : Int) + 1 ≤ (n : Int)) := by omega
      have hO' : (wK wr k).ownsRow w.heap.size 40 3 v k (cellsN N) := own_drew (((hO.alloc _).alloc _).alloc _)
      have hcs : ∀ j u, (ndK k (wr.heap.size + 1)).cells[j]? = some u → (wK wr k).cell? ((⟨wr.heap.size + 1 + 1, 0, none⟩ : Addr).add j) = some u := by
        have := new_at ((wr.alloc (.cells #[.int .i64 1, .int .i64 ((k : Int) + 1), .string ⟨#[]⟩] 50)).alloc (.cells #[.string ⟨#[107]⟩, .int .i64 1, .int .i64 ((k : Int) + 1), .string ⟨#[]⟩] 53)) (ndK k (wr.heap.size + 1)).cells 40
        simp only [World.size_alloc] at this
        exact this
      have h1c : ∀ u ∈ (ndK k (wr.heap.size + 1)).cells, u.oneCell' = true := by simp [Nd.cells, Value.oneCell']
      have hbs : w.heap.size ≤ (wK wr k).heap.size := by simp [wK]; omega
      have HO : Hid ((wK wr k).ownsRow w.heap.size 40 3 v k (cellsN N) ∧ (∀ j u, (ndK k (wr.heap.size + 1)).cells[j]? = some u → (wK wr k).cell? ((⟨wr.heap.size + 1 + 1, 0, none⟩ : Addr).add j) = some u) ∧ (∀ u ∈ (ndK k (wr.heap.size + 1)).cells, u.oneCell' = true) ∧ w.heap.size ≤ (wK wr k).heap.size ∧ (k + 1 ≤ maxLen ∧ (k + 1) * 48 ≤ 140737488355328)) := ⟨hO', hcs, h1c, hbs, by unfold maxLen; omega, by omega⟩
      have HK : Hid (∀ w1, (wK wr k).grownBy w1 v.ownBlock → w1.cell? ⟨w.heap.size + 1, 0, none⟩ = some v ∧ w1.frozen? ⟨w.heap.size + 1, 0, none⟩ = false ∧ w1.cell? ⟨w.heap.size + 1, 1, none⟩ = some (.slice none 0 0)) := fun w1 hg1 => by
        have hne := row_apart hO hG (by decide)
        have hbk : w1.heap[w.heap.size + 1]? = some (.cells #[v, .slice none 0 0] 25 (0, 0)) := (hg1.block _ (Nat.lt_of_lt_of_le hgl (bK wr k).size) (fun h => hne h.symm)).trans (((bK wr k).block _ hgl).trans hG)
        exact ⟨cell_of hbk rfl, frz_of hbk, cell_of hbk rfl⟩
      have hx3 : (wK wr k).cell? ⟨w.heap.size + 1, 0, none⟩ = some v := (bK wr k).cell hgl |>.trans g0
      unfold wK at hx3
      have hy3 : (wK wr k).cell? ⟨w.heap.size + 1, 1, none⟩ = some (.slice none 0 0) := (bK wr k).cell hgl |>.trans g1
      unfold wK at hy3
      have hx2 : ((wr.alloc (.cells #[.int .i64 1, .int .i64 ((k : Int) + 1), .string ⟨#[]⟩] 50)).alloc (.cells #[.string ⟨#[107]⟩, .int .i64 1, .int .i64 ((k : Int) + 1), .string ⟨#[]⟩] 53)).drew.cell? ⟨w.heap.size + 1, 0, none⟩ = some v := ((b_drew (b_alloc (b_alloc (Below.refl wr.heap.size wr) _) _)).cell hgl).trans g0
      have hx1 : (wr.alloc (.cells #[.int .i64 1, .int .i64 ((k : Int) + 1), .string ⟨#[]⟩] 50)).drew.cell? ⟨w.heap.size + 1, 0, none⟩ = some v := ((b_drew (b_alloc (Below.refl wr.heap.size wr) _)).cell hgl).trans g0
      have HQ : Hid (N.length = k ∧ wr.ownsRow w.heap.size 40 3 v k (cellsN N)) := ⟨hkk, hO⟩
      have hwi : IntKind.i64.wrap ((k : Int) + 1 + 1) = (k : Int) + 1 + 1 := by rw [IntKind.wrap_i64]; omega
      clear hRe hB hG hR hkk hO hO' hcs h1c hbs
      go_wp2
      go_region_law (first | (go_simp; go_at_call 12; refine (number_any _ _).mono ?_; rintro e W1 ⟨rfl, rfl⟩) | (refine step_append_ownF rfl (.tmp 14) (.tmp 21) 22 rfl w.heap.size 40 i0 _ 3 48 Tryd.underlying22 hi0 hz0 hz1 hz2 rfl (by decide) v k (cellsN N) (by simp [Act.eval, Act.put]) HO.out.1 ⟨wr.heap.size + 1 + 1, 0, none⟩ 1 1 (ndK k (wr.heap.size + 1)).cells (by simp [Act.eval, Act.put]) rfl HO.out.2.1 HO.out.2.2.1 HO.out.2.2.2.2.1 HO.out.2.2.2.2.2 HO.out.2.2.2.1 ?_; intro v1 w1 hown1 hgrow1; obtain ⟨q0, q1, q2⟩ := HK.out w1 hgrow1; obtain ⟨a1, c1, rfl⟩ := own_slice hown1))
      all_goals
        have HR2 : Hid (M1 w n (.int .i64 ((k : Int) + 1 + 1)) (w1.setCell ⟨w.heap.size + 1, 0, none⟩ (.slice a1 (k + 1) c1))) := m1_step HQ.out.1 hlt HH.out.1 HH.out.2.1 HH.out.2.2.1 HH.out.2.2.2 HQ.out.2 hown1 hgrow1
        clear hown1 hgrow1
        go_wp2
        refine ⟨?_, ?_⟩
        · first | exact HR2.out | ((repeat apply Exists.intro); refine ⟨?_, rfl⟩; exact HR2.out)
        · simp [intOf]
          try omega
    · obtain rfl : k = n := by omega
      obtain ⟨an, cn, rfl⟩ := own_slice hO
      have HX : Hid (N.length = k ∧ wr.ownsRow w.heap.size 40 3 (.slice an k cn) k (cellsN N) ∧ Recs wr N ∧ wr.heap[w.heap.size]? = some (.cells #[.slice none 0 0, .slice none 0 0] 25 (0, 0))) := ⟨hkk, hO, hRe, hR⟩
      have HS : Hid (wr.heap[w.heap.size + 1]? = some (.cells #[.slice an k cn, .slice none 0 0] 25 (0, 0)) ∧ Below w.heap.size w wr) := ⟨hG, hB⟩
      clear hkk hO hRe hR hB hG HH g0 g1 f0
      obtain ⟨W, hW⟩ : ∃ W, W = wr := ⟨wr, rfl⟩
      subst hW
      go_wp2
      go_loopw [7] (fun i wr => M2 w W (.slice an k cn) m i wr) (fun i _ => m + 1 - (intOf i).toNat)
      case atStart => exact ⟨0, .slice none 0 0, Nat.zero_le _, rfl, World.ownsRow_nil _ _ _ _, HS.out.1, fun _ _ _ => rfl, Nat.le_refl _, HS.out.2⟩
      case round =>
        obtain ⟨j, v2, hj, rfl, hO, hG, hK, hs, hB⟩ := hrel
        obtain ⟨a2, c2, rfl⟩ := own_slice hO
        have g0 := cell_of (i := 0) hG rfl
        have g1 := cell_of (i := 1) hG rfl
        have f1 := frz_of (i := 1) hG
        have hgr : w.heap.size + 1 < wr.heap.size := (Array.getElem?_eq_some_iff.1 hG).1
        have hgn2 : ¬ w.heap.size + 1 = wr.heap.size := by omega
        have HH : Hid (wr.ownsRow W.heap.size 47 3 (.slice a2 j c2) j (cellsT (rowT j)) ∧ wr.heap[w.heap.size + 1]? = some (.cells #[.slice an k cn, .slice a2 j c2] 25 (0, 0)) ∧ (∀ b, b < W.heap.size → b ≠ w.heap.size + 1 → wr.heap[b]? = W.heap[b]?) ∧ W.heap.size ≤ wr.heap.size ∧ Below w.heap.size w wr) := ⟨hO, hG, hK, hs, hB⟩
        by_cases hlt2 : j < m
        · have hle2 : (j : Int) + 1 ≤ (m : Int) := by omega
          have hwj : IntKind.i64.wrap ((j : Int) + 1 + 1) = (j : Int) + 1 + 1 := by rw [IntKind.wrap_i64]; omega
          have HO : Hid ((wr.alloc (.cells #[.string ⟨#[112]⟩, .int .i64 ((j : Int) + 1), .int .i64 ((j : Int) + 1 + 1)] 47)).ownsRow W.heap.size 47 3 (.slice a2 j c2) j (cellsT (rowT j)) ∧ (j + 1 ≤ maxLen ∧ (j + 1) * 32 ≤ 140737488355328) ∧ W.heap.size ≤ (wr.alloc (.cells #[.string ⟨#[112]⟩, .int .i64 ((j : Int) + 1), .int .i64 ((j : Int) + 1 + 1)] 47)).heap.size) := ⟨hO.alloc _, ⟨by unfold maxLen; omega, by omega⟩, by simp; omega⟩
          have HK : Hid (∀ w1, (wr.alloc (.cells #[.string ⟨#[112]⟩, .int .i64 ((j : Int) + 1), .int .i64 ((j : Int) + 1 + 1)] 47)).grownBy w1 (Value.slice a2 j c2).ownBlock → w1.cell? ⟨w.heap.size + 1, 1, none⟩ = some (.slice a2 j c2) ∧ w1.frozen? ⟨w.heap.size + 1, 1, none⟩ = false) := fun w1 hg1 => by
            have hne := row_apart hO hG (by decide)
            have hbk : w1.heap[w.heap.size + 1]? = some (.cells #[.slice an k cn, .slice a2 j c2] 25 (0, 0)) := (hg1.block _ (by simp; omega) (fun h => hne h.symm)).trans ((Below.heap_alloc _ _ _ hgr).trans hG)
            exact ⟨cell_of hbk rfl, frz_of hbk⟩
          clear hO hG hK hs hB
          go_wp2_with (at_builtin; refine wpList_append_own _ rfl (.tmp 30) (.tmp 35) 23 rfl W.heap.size 47 i1 _ 3 32 Tryd.underlying23 ji0 jz0 jz1 jz2 rfl (by decide) (.slice a2 j c2) j (cellsT (rowT j)) rfl HO.out.1 ⟨wr.heap.size, 0, none⟩ 1 1 (tK j).cells rfl rfl (new_at wr (tK j).cells 47) (by simp [tK, Te.cells, Value.oneCell']) HO.out.2.1.1 HO.out.2.1.2 HO.out.2.2 ?_; intro v1 w1 hown1 hgrow1 _; obtain ⟨q0, q1⟩ := HK.out w1 hgrow1; obtain ⟨a1, c1, rfl⟩ := own_slice hown1)
          have HR2 : Hid (M2 w W (.slice an k cn) m (.int .i64 ((j : Int) + 1 + 1)) (w1.setCell ⟨w.heap.size + 1, 1, none⟩ (.slice a1 (j + 1) c1))) := m2_step hlt2 hgl HH.out.1 HH.out.2.1 HH.out.2.2.1 HH.out.2.2.2.1 HH.out.2.2.2.2 hown1 hgrow1
          refine ⟨?_, ?_⟩
          · first | exact HR2.out | ((repeat apply Exists.intro); refine ⟨?_, rfl⟩; exact HR2.out)
          · simp [intOf]
            try omega
        · obtain rfl : j = m := by omega
          have hR2 : wr.heap[w.heap.size]? = some (.cells #[.slice none 0 0, .slice none 0 0] 25 (0, 0)) := (hK _ (by omega) (by omega)).trans HX.out.2.2.2
          have r0 := cell_of (i := 0) hR2 rfl
          have r1 := cell_of (i := 1) hR2 rfl
          have fr0 := frz_of (i := 0) hR2
          have fr1 := frz_of (i := 1) hR2
          have hfin := many_end HX.out.1 HX.out.2.1 HX.out.2.2.1 HX.out.2.2.2 hgl HS.out.1 HH.out.1 HH.out.2.1 HH.out.2.2.1 HH.out.2.2.2.1 HH.out.2.2.2.2
          have HF : Hid (RowN w.heap.size ((wr.setCell ⟨w.heap.size, 0, none⟩ (.slice an k cn)).setCell ⟨w.heap.size, 1, none⟩ (.slice a2 j c2)) (.slice an k cn) k ∧ IsT ((wr.setCell ⟨w.heap.size, 0, none⟩ (.slice an k cn)).setCell ⟨w.heap.size, 1, none⟩ (.slice a2 j c2)) (.slice a2 j c2) (rowT j) ∧ Below w.heap.size w ((wr.setCell ⟨w.heap.size, 0, none⟩ (.slice an k cn)).setCell ⟨w.heap.size, 1, none⟩ (.slice a2 j c2))) := hfin
          clear hO hG hK hs hB hfin hR2
          have s1 : ((wr.setCell ⟨w.heap.size, 0, none⟩ (.slice an k cn)).setCell ⟨w.heap.size, 1, none⟩ (.slice a2 j c2)).cell? ⟨w.heap.size, 1, none⟩ = some (.slice a2 j c2) := World.cell?_setCell_same' _ _ _ (by rw [cell_oth (by simp), r1]; rfl)
          have s0 : ((wr.setCell ⟨w.heap.size, 0, none⟩ (.slice an k cn)).setCell ⟨w.heap.size, 1, none⟩ (.slice a2 j c2)).cell? ⟨w.heap.size, 0, none⟩ = some (.slice an k cn) := by
            refine (cell_oth (by simp)).trans ?_
            exact World.cell?_setCell_same' _ _ _ (by rw [r0]; rfl)
          have HS01 : Hid (((wr.setCell ⟨w.heap.size, 0, none⟩ (.slice an k cn)).setCell ⟨w.heap.size, 1, none⟩ (.slice a2 j c2)).cell? ⟨w.heap.size, 0, none⟩ = some (.slice an k cn) ∧ ((wr.setCell ⟨w.heap.size, 0, none⟩ (.slice an k cn)).setCell ⟨w.heap.size, 1, none⟩ (.slice a2 j c2)).cell? ⟨w.heap.size, 1, none⟩ = some (.slice a2 j c2)) := ⟨s0, s1⟩
          clear s0 s1
          go_wp2
          refine bodyPost_ret (v := .agg #[.slice an k cn, .slice a2 j c2]) ?_ rfl ⟨an, cn, a2, c2, rfl, HF.out⟩
          obtain ⟨s0, s1⟩ := HS01.out
          simp [results, Tryd.results5, go_sem, s0, s1]
end Go.Proofs.YteabdlandbmdaaaDoor

/-
  The law TextLines of the program, walked: a graph's text has as many lines as it has nodes and ties.
-/
namespace Go.Proofs.YteabdlandbmdaaaDoor
open Go.RowKit
set_option linter.unusedVariables false
set_option linter.unusedSimpArgs false

def nA (v : Value) : Nd := ⟨1, ⟨#[97]⟩, v, [prK 1]⟩
theorem gA (v : Value) : gErr [nA v] [] = 0 := by
  have h : gErr [(⟨1, ⟨#[97]⟩, .nilIface, [prK 1]⟩ : Nd)] [] = 0 := by decide +kernel
  exact h
theorem tA (v : Value) : gText [nA v] [] = [110, 111, 100, 101, 32, 49, 32, 97, 32, 107, 61, 49, 10] := by
  have h : gText [(⟨1, ⟨#[97]⟩, .nilIface, [prK 1]⟩ : Nd)] [] = [110, 111, 100, 101, 32, 49, 32, 97, 32, 107, 61, 49, 10] := by decide +kernel
  exact h
theorem zA (v : Value) : SzN [nA v] := by
  intro n hn
  rw [List.mem_singleton.1 hn]
  refine ⟨?_, ?_, ?_⟩
  · show 1 ≤ maxLen; unfold maxLen; omega
  · intro p hp
    rw [show (nA v).rc = [prK 1] from rfl] at hp
    rw [List.mem_singleton.1 hp]
    exact ⟨by show 1 ≤ maxLen; unfold maxLen; omega, by show 0 ≤ maxLen; exact Nat.zero_le _⟩
  · show 1 ≤ maxLen; unfold maxLen; omega
theorem nl_snoc (l : Nm) (c : UInt8) : nl (l ++ [c]) = nl l + if c = 10 then 1 else 0 := by
  rw [nl_app]
  congr 1
  unfold nl
  by_cases h : c = 10 <;> simp [h]
theorem nl_le (l : Nm) : nl l ≤ l.length := List.countP_le_length

set_option maxHeartbeats 8000000 in
set_option maxRecDepth 100000 in
theorem tlines_walk {vn vt : Value} {N : List Nd} {T : List Te} {w : World} (hN : IsN w vn N) (hT : IsT w vt T) (zN : SzN N) (zT : SzT T) (lN : N.length ≤ maxLen) (lT : T.length ≤ maxLen) (hE : Tab w) :
    Calls Tryd.prog 3 #[.agg #[vn, vt]] w fun e w' => e = .returned (.bool true) ∧ Below w.heap.size w w' := by
  obtain ⟨W0, hW0⟩ : ∃ W0, W0 = w.alloc (.cells #[vn, vt] 25) := ⟨_, rfl⟩
  have hB0 : Below w.heap.size w W0 := by rw [hW0]; exact b_alloc (Below.refl _ _) _
  have n0 : W0.heap[w.heap.size]? = some (.cells #[vn, vt] 25 (0, 0)) := by rw [hW0]; exact heap_alloc_new w _
  have HX : Hid (∀ W, Below W0.heap.size W0 W → W.cell? ⟨w.heap.size, 0, none⟩ = some vn ∧ W.cell? ⟨w.heap.size, 1, none⟩ = some vt) := fun W hb => ⟨cellB ((hb.block _ (Array.getElem?_eq_some_iff.1 n0).1).trans n0) rfl, cellB ((hb.block _ (Array.getElem?_eq_some_iff.1 n0).1).trans n0) rfl⟩
  have cM := many_any 1 0 (by omega) (by omega) W0
  have HG : Hid (IsN w vn N ∧ IsT w vt T ∧ Tab w ∧ Below w.heap.size w W0) := ⟨hN, hT, hE, hB0⟩
  have hz0 : w.heap.size < W0.heap.size := by rw [hW0]; simp
  obtain ⟨an, cn, rfl, _⟩ := hN
  obtain ⟨av, cv, rfl, _⟩ := hT
  unfold ManyP at cM
  clear hE hB0 n0
  go_enter Tryd.func3, Tryd.ntmps3
  go_upto_region 1 with fail
  rw [← hW0]
  clear hW0
  go_wp2_with (first | (go_at_call 5; refine cM.mono ?_; rintro e W1 ⟨a1, c1, a2, c2, rfl, hRow, hT1, hB1⟩; refine Hid.out ?_))
  refine Lib.hid ?_
  obtain ⟨N1, base, _, hl1, hN1, hrow, _⟩ := hRow
  obtain ⟨n1, rfl⟩ : ∃ n, N1 = [n] := List.length_eq_one_iff.1 hl1
  obtain ⟨i1, i2, i3⟩ := hrow 0 n1 rfl
  have en : n1 = nA n1.rv := by
    obtain ⟨x1, x2, x3, x4⟩ := n1
    simp only at i1 i2 i3
    subst i1 i2 i3
    rfl
  rw [en] at hN1
  have hb01 := on1 HG.out.2.2.2 hB1
  have cP := tprint_ok hN1 (show IsT W1 (.slice a2 0 c2) [] from hT1) (zA _) (fun x hx => by simp at hx) (Lib.tabBelow_of_tabIs HG.out.2.2.1 W1 hb01) (gA _)
  rw [tA] at cP
  rw [show bs [110, 111, 100, 101, 32, 49, 32, 97, 32, 107, 61, 49, 10] = ⟨#[110, 111, 100, 101, 32, 49, 32, 97, 32, 107, 61, 49, 10]⟩ from rfl] at cP
  have HB1 := Lib.hid hB1
  clear cM hl1 hN1 hrow i1 i2 i3 en hT1 hb01 hB1
  go_wp2_with (first | (go_at_call 4; refine cP.mono ?_; rintro e W2 ⟨rfl, hB2⟩; refine Hid.out ?_))
  refine Lib.hid ?_
  have hBt2 := on1 HB1.out hB2
  have hbw2 := on1 HG.out.2.2.2 hBt2
  obtain ⟨x0, x1⟩ := HX.out _ hBt2
  have HB2 := Lib.hid hBt2
  clear cP hB2 HB1
  by_cases he : gErr N T = 0
  · have c2 := tprint_ok (HG.out.1.on hbw2) (HG.out.2.1.on hbw2) zN zT (Lib.tabBelow_of_tabIs HG.out.2.2.1 W2 hbw2) he
    have HN : Hid (nl (gText N T) = N.length + T.length) := gText_nl he
    have HZ := gText_le he
    obtain ⟨hn60, hn120, _, _⟩ := gErr_zero he
    generalize gText N T = X at c2 HN HZ
    have hts : (bs X).size ≤ 36000 := by rw [bs_size]; exact HZ
    have HD : Hid (nl (bs X).data.toList = N.length + T.length) := by rw [bs_data]; exact HN.out
    generalize bs X = s at c2 hts HD
    clear he HN HZ hBt2 hbw2
    go_wp2_with (first | (go_at_call 4; refine c2.mono ?_; rintro e W3 ⟨rfl, hB3⟩; refine Hid.out ?_))
    refine Lib.hid ?_
    have hBt3 := on1 HB2.out hB3
    have hbw3 := on1 HG.out.2.2.2 hBt3
    obtain ⟨y0, y1⟩ := HX.out _ hBt3
    have HB3 := Lib.hid hbw3
    clear c2 hB3 hBt3 hbw3 x0 x1 HB2
    go_wp2
    go_loop [7, 8] (fun n i => ∃ k : Nat, k ≤ s.size ∧ i = .int .i64 k ∧ n = .int .i64 (nl (s.data.toList.take k))) (fun _ i => s.size - (intOf i).toNat)
    case atStart => exact ⟨0, Nat.zero_le _, rfl, rfl⟩
    case round =>
      obtain ⟨k, hk, rfl, rfl⟩ := hrel
      have hnl := nl_le (s.data.toList.take k)
      have hl : (s.data.toList.take k).length ≤ k := List.length_take_le _ _
      by_cases hlt : k < s.size
      · have hsn := nl_snoc (s.data.toList.take k) s[k]
        rw [← take_snoc s k hlt] at hsn
        by_cases hc : s[k] = 10
        · rw [if_pos hc] at hsn
          have HS : Hid (nl (s.data.toList.take (k + 1)) = nl (s.data.toList.take k) + 1) := hsn
          have hc2 : ((s[k].toNat : Int) == 10) = true := by rw [hc]; rfl
          clear hsn hc
          go_wp2
          go_round
          case rel => exact ⟨k + 1, by omega, by go_num, by rw [HS.out]; go_num⟩
          case measure => simp [intOf]; omega
        · rw [if_neg hc] at hsn
          have HS : Hid (nl (s.data.toList.take (k + 1)) = nl (s.data.toList.take k)) := hsn
          have hc2 : ((s[k].toNat : Int) == 10) = false := by
            have : ¬ (s[k].toNat : Int) = 10 := fun e => hc (by apply UInt8.toNat_inj.1; show _ = 10; omega)
            simpa using this
          clear hsn hc
          go_wp2
          go_round
          case rel => exact ⟨k + 1, by omega, by go_num, by rw [HS.out]⟩
          case measure => simp [intOf]; omega
      · have hte : s.data.toList.take k = s.data.toList := List.take_of_length_le (by simp; omega)
        rw [hte, HD.out]
        clear hnl hl hte
        go_wp2
        go_ret
        exact ⟨ret_bool (by simp), HB3.out⟩
  · have c2 := tprint_bad (HG.out.1.on hbw2) (HG.out.2.1.on hbw2) zN zT lN lT he
    have c3 : ∀ W, Below W2.heap.size W2 W → Calls Tryd.prog 6 #[.agg #[.slice an N.length cn, .slice av T.length cv]] W fun e w' => e = .returned (.iface 54 (.int .i64 (gErr N T))) ∧ Below W.heap.size W w' := fun W hW => by
      have := gcheck_any ((HG.out.1.on hbw2).on hW) ((HG.out.2.1.on hbw2).on hW) zN zT lN lT
      rw [errV_ne he] at this
      exact this
    have HB2w := Lib.hid hbw2
    generalize gErr N T = ge at c2 c3
    clear he hBt2 hbw2
    go_wp2_with (first | (go_at_call 4; refine c2.mono ?_; rintro e W3 ⟨rfl, hB3⟩; refine Hid.out ?_))
    refine Lib.hid ?_
    have hBt3 := on1 HB2.out hB3
    obtain ⟨y0, y1⟩ := HX.out _ hBt3
    have c4 := c3 W3 hB3
    have HB3 := Lib.hid hB3
    clear c2 c3 x0 x1 hB3 hBt3
    go_wp2_with (first | (go_at_call 6; refine c4.mono ?_; rintro e W4 ⟨rfl, hB4⟩))
    go_ret
    exact ⟨rfl, on1 (on1 HB2w.out HB3.out) hB4⟩
end Go.Proofs.YteabdlandbmdaaaDoor
