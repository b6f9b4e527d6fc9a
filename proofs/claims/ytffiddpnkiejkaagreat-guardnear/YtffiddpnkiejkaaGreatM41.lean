/-
  The walk of many.
-/
import Derived.Test.YtffiddpnkiejkaaGreatM04
import Derived.Test.YtffiddpnkiejkaaGreatM37
import Derived.Test.YtffiddpnkiejkaaGreatM40
import Derived.Test.YtffiddpnkiejkaaGreatM39
namespace Go.Proofs.YtffiddpnkiejkaaGreat
open Go.RowKit
set_option linter.unusedVariables false
set_option linter.unusedSimpArgs false

theorem cell_oth {w : World} {b i j : Nat} {u : Value} (h : i ≠ j) : (w.setCell ⟨b, i, none⟩ u).cell? ⟨b, j, none⟩ = w.cell? ⟨b, j, none⟩ := World.cell?_setCell_other _ _ _ _ (by intro e; exact h (by injection e))
/-- What many gives. -/
def ManyP (w : World) (n m : Nat) (e : Ending) (w' : World) : Prop := ∃ an cn am cm, e = .returned (.agg #[.slice an n cn, .slice am m cm]) ∧ RowN w.heap.size w' (.slice an n cn) n ∧ IsT w' (.slice am m cm) (rowT m) ∧ Below w.heap.size w w'
set_option maxHeartbeats 2000000 in
set_option maxRecDepth 100000 in
theorem many_any (n m : Nat) (hn : n ≤ 80) (hm : m ≤ 140) (w : World) : Calls Tryz.prog 15 #[.int .i64 n, .int .i64 m] w (ManyP w n m) := by
  obtain ⟨i0, hi0, hz0, hz1, hz2⟩ := info_parts infoN
  obtain ⟨i1, ji0, jz0, jz1, jz2⟩ := info_parts infoT
  go_enter Tryz.func15, Tryz.ntmps15
  go_wp2
  go_loopw [6] (fun i wr => M1 w n i wr) (fun i _ => n + 1 - (intOf i).toNat)
  case atStart => exact ⟨[], .slice none 0 0, Nat.zero_le _, rfl, World.ownsRow_nil _ _ _ _, (by have := heap_alloc_new (w.alloc (.cells #[.slice none 0 0, .slice none 0 0] 29)) (.cells #[.slice none 0 0, .slice none 0 0] 29); rwa [World.size_alloc] at this), (Below.heap_alloc _ _ _ (by simp)).trans (heap_alloc_new w _), fun j n h => by simp at h, b_alloc (b_alloc (Below.refl _ _) _) _⟩
  case round =>
    obtain ⟨N, v, hk, rfl, hO, hG, hR, hRe, hB⟩ := hrel
    have g0 := cell_of (i := 0) hG rfl
    have f0 := frz_of (i := 0) hG
    have g1 := cell_of (i := 1) hG rfl
    have HH : Hid (Recs wr N ∧ Below w.heap.size w wr ∧ wr.heap[w.heap.size + 1]? = some (.cells #[v, .slice none 0 0] 29 (0, 0)) ∧ wr.heap[w.heap.size]? = some (.cells #[.slice none 0 0, .slice none 0 0] 29 (0, 0))) := ⟨hRe, hB, hG, hR⟩
    have hgl : w.heap.size + 1 < wr.heap.size := (Array.getElem?_eq_some_iff.1 hG).1
    have hgn : ¬ w.heap.size + 1 = wr.heap.size := by omega
    obtain ⟨k, hkk⟩ : ∃ k, N.length = k := ⟨_, rfl⟩
    rw [hkk] at hk hO ⊢
    by_cases hlt : k < n
    · have hle : ((k : Int) + 1 ≤ (n : Int)) := by omega
      have hO' : (wK wr k).ownsRow w.heap.size 34 3 v k (cellsN N) := own_drew (((hO.alloc _).alloc _).alloc _)
      have hcs : ∀ j u, (ndK k (wr.heap.size + 1)).cells[j]? = some u → (wK wr k).cell? ((⟨wr.heap.size + 1 + 1, 0, none⟩ : Addr).add j) = some u := by
        have := new_at ((wr.alloc (.cells #[.int .i64 1, .int .i64 ((k : Int) + 1), .string ⟨#[]⟩] 43)).alloc (.cells #[.string ⟨#[107]⟩, .int .i64 1, .int .i64 ((k : Int) + 1), .string ⟨#[]⟩] 45)) (ndK k (wr.heap.size + 1)).cells 34
        simp only [World.size_alloc] at this
        exact this
      have h1c : ∀ u ∈ (ndK k (wr.heap.size + 1)).cells, u.oneCell' = true := by simp [Nd.cells, Value.oneCell']
      have hbs : w.heap.size ≤ (wK wr k).heap.size := by simp [wK]; omega
      have HO : Hid ((wK wr k).ownsRow w.heap.size 34 3 v k (cellsN N) ∧ (∀ j u, (ndK k (wr.heap.size + 1)).cells[j]? = some u → (wK wr k).cell? ((⟨wr.heap.size + 1 + 1, 0, none⟩ : Addr).add j) = some u) ∧ (∀ u ∈ (ndK k (wr.heap.size + 1)).cells, u.oneCell' = true) ∧ w.heap.size ≤ (wK wr k).heap.size ∧ (k + 1 ≤ maxLen ∧ (k + 1) * 48 ≤ 140737488355328)) := ⟨hO', hcs, h1c, hbs, by unfold maxLen; omega, by omega⟩
      have HK : Hid (∀ w1, (wK wr k).grownBy w1 v.ownBlock → w1.cell? ⟨w.heap.size + 1, 0, none⟩ = some v ∧ w1.frozen? ⟨w.heap.size + 1, 0, none⟩ = false ∧ w1.cell? ⟨w.heap.size + 1, 1, none⟩ = some (.slice none 0 0)) := fun w1 hg1 => by
        have hne := row_apart hO hG (by decide)
        have hbk : w1.heap[w.heap.size + 1]? = some (.cells #[v, .slice none 0 0] 29 (0, 0)) := (hg1.block _ (Nat.lt_of_lt_of_le hgl (bK wr k).size) (fun h => hne h.symm)).trans (((bK wr k).block _ hgl).trans hG)
        exact ⟨cell_of hbk rfl, frz_of hbk, cell_of hbk rfl⟩
      have hx3 : (wK wr k).cell? ⟨w.heap.size + 1, 0, none⟩ = some v := (bK wr k).cell hgl |>.trans g0
      unfold wK at hx3
      have hy3 : (wK wr k).cell? ⟨w.heap.size + 1, 1, none⟩ = some (.slice none 0 0) := (bK wr k).cell hgl |>.trans g1
      unfold wK at hy3
      have hx2 : ((wr.alloc (.cells #[.int .i64 1, .int .i64 ((k : Int) + 1), .string ⟨#[]⟩] 43)).alloc (.cells #[.string ⟨#[107]⟩, .int .i64 1, .int .i64 ((k : Int) + 1), .string ⟨#[]⟩] 45)).drew.cell? ⟨w.heap.size + 1, 0, none⟩ = some v := ((b_drew (b_alloc (b_alloc (Below.refl wr.heap.size wr) _) _)).cell hgl).trans g0
      have hx1 : (wr.alloc (.cells #[.int .i64 1, .int .i64 ((k : Int) + 1), .string ⟨#[]⟩] 43)).drew.cell? ⟨w.heap.size + 1, 0, none⟩ = some v := ((b_drew (b_alloc (Below.refl wr.heap.size wr) _)).cell hgl).trans g0
      have HQ : Hid (N.length = k ∧ wr.ownsRow w.heap.size 34 3 v k (cellsN N)) := ⟨hkk, hO⟩
      have hwi : IntKind.i64.wrap ((k : Int) + 1 + 1) = (k : Int) + 1 + 1 := by rw [IntKind.wrap_i64]; omega
      clear hRe hB hG hR hkk hO hO' hcs h1c hbs
      go_wp2
      go_region_law (first | (go_simp; go_at_call 27; refine (number_any _ _).mono ?_; rintro e W1 ⟨rfl, rfl⟩) | (refine step_append_own rfl (.tmp 14) (.tmp 21) 26 rfl w.heap.size 34 i0 _ 3 48 Tryz.underlying26 hi0 hz0 hz1 hz2 rfl (by decide) v k (cellsN N) (by simp [Act.eval, Act.put]) HO.out.1 ⟨wr.heap.size + 1 + 1, 0, none⟩ 1 1 (ndK k (wr.heap.size + 1)).cells (by simp [Act.eval, Act.put]) rfl HO.out.2.1 HO.out.2.2.1 HO.out.2.2.2.2.1 HO.out.2.2.2.2.2 HO.out.2.2.2.1 ?_; intro v1 w1 hown1 hgrow1; obtain ⟨q0, q1, q2⟩ := HK.out w1 hgrow1; obtain ⟨a1, c1, rfl⟩ := own_slice hown1))
      all_goals
        have HR2 : Hid (M1 w n (.int .i64 ((k : Int) + 1 + 1)) (w1.setCell ⟨w.heap.size + 1, 0, none⟩ (.slice a1 (k + 1) c1))) := m1_step HQ.out.1 hlt HH.out.1 HH.out.2.1 HH.out.2.2.1 HH.out.2.2.2 HQ.out.2 hown1 hgrow1
        clear hown1 hgrow1
        go_wp2
        refine ⟨?_, ?_⟩
        · first | exact HR2.out | ((repeat apply Exists.intro); refine ⟨?_, rfl⟩; exact HR2.out)
        · simp [intOf]
          try omega
    · obtain rfl : k = n := by omega
      obtain ⟨an, cn, rfl⟩ := own_slice hO
      have HX : Hid (N.length = k ∧ wr.ownsRow w.heap.size 34 3 (.slice an k cn) k (cellsN N) ∧ Recs wr N ∧ wr.heap[w.heap.size]? = some (.cells #[.slice none 0 0, .slice none 0 0] 29 (0, 0))) := ⟨hkk, hO, hRe, hR⟩
      have HS : Hid (wr.heap[w.heap.size + 1]? = some (.cells #[.slice an k cn, .slice none 0 0] 29 (0, 0)) ∧ Below w.heap.size w wr) := ⟨hG, hB⟩
      clear hkk hO hRe hR hB hG HH g0 g1 f0
      obtain ⟨W, hW⟩ : ∃ W, W = wr := ⟨wr, rfl⟩
      subst hW
      go_wp2
      go_loopw [7] (fun i wr => M2 w W (.slice an k cn) m i wr) (fun i _ => m + 1 - (intOf i).toNat)
      case atStart => exact ⟨0, .slice none 0 0, Nat.zero_le _, rfl, World.ownsRow_nil _ _ _ _, HS.out.1, fun _ _ _ => rfl, Nat.le_refl _, HS.out.2⟩
      case round =>
        obtain ⟨j, v2, hj, rfl, hO, hG, hK, hs, hB⟩ := hrel
        obtain ⟨a2, c2, rfl⟩ := own_slice hO
        have g0 := cell_of (i := 0) hG rfl
        have g1 := cell_of (i := 1) hG rfl
        have f1 := frz_of (i := 1) hG
        have hgr : w.heap.size + 1 < wr.heap.size := (Array.getElem?_eq_some_iff.1 hG).1
        have hgn2 : ¬ w.heap.size + 1 = wr.heap.size := by omega
        have HH : Hid (wr.ownsRow W.heap.size 36 3 (.slice a2 j c2) j (cellsT (rowT j)) ∧ wr.heap[w.heap.size + 1]? = some (.cells #[.slice an k cn, .slice a2 j c2] 29 (0, 0)) ∧ (∀ b, b < W.heap.size → b ≠ w.heap.size + 1 → wr.heap[b]? = W.heap[b]?) ∧ W.heap.size ≤ wr.heap.size ∧ Below w.heap.size w wr) := ⟨hO, hG, hK, hs, hB⟩
        by_cases hlt2 : j < m
        · have hle2 : (j : Int) + 1 ≤ (m : Int) := by omega
          have hwj : IntKind.i64.wrap ((j : Int) + 1 + 1) = (j : Int) + 1 + 1 := by rw [IntKind.wrap_i64]; omega
          have HO : Hid ((wr.alloc (.cells #[.string ⟨#[112]⟩, .int .i64 ((j : Int) + 1), .int .i64 ((j : Int) + 1 + 1)] 36)).ownsRow W.heap.size 36 3 (.slice a2 j c2) j (cellsT (rowT j)) ∧ (j + 1 ≤ maxLen ∧ (j + 1) * 32 ≤ 140737488355328) ∧ W.heap.size ≤ (wr.alloc (.cells #[.string ⟨#[112]⟩, .int .i64 ((j : Int) + 1), .int .i64 ((j : Int) + 1 + 1)] 36)).heap.size) := ⟨hO.alloc _, ⟨by unfold maxLen; omega, by omega⟩, by simp; omega⟩
          have HK : Hid (∀ w1, (wr.alloc (.cells #[.string ⟨#[112]⟩, .int .i64 ((j : Int) + 1), .int .i64 ((j : Int) + 1 + 1)] 36)).grownBy w1 (Value.slice a2 j c2).ownBlock → w1.cell? ⟨w.heap.size + 1, 1, none⟩ = some (.slice a2 j c2) ∧ w1.frozen? ⟨w.heap.size + 1, 1, none⟩ = false) := fun w1 hg1 => by
            have hne := row_apart hO hG (by decide)
            have hbk : w1.heap[w.heap.size + 1]? = some (.cells #[.slice an k cn, .slice a2 j c2] 29 (0, 0)) := (hg1.block _ (by simp; omega) (fun h => hne h.symm)).trans ((Below.heap_alloc _ _ _ hgr).trans hG)
            exact ⟨cell_of hbk rfl, frz_of hbk⟩
          clear hO hG hK hs hB
          go_wp2_with (at_builtin; refine wpList_append_own _ rfl (.tmp 30) (.tmp 35) 27 rfl W.heap.size 36 i1 _ 3 32 Tryz.underlying27 ji0 jz0 jz1 jz2 rfl (by decide) (.slice a2 j c2) j (cellsT (rowT j)) rfl HO.out.1 ⟨wr.heap.size, 0, none⟩ 1 1 (tK j).cells rfl rfl (new_at wr (tK j).cells 36) (by simp [tK, Te.cells, Value.oneCell']) HO.out.2.1.1 HO.out.2.1.2 HO.out.2.2 ?_; intro v1 w1 hown1 hgrow1 _; obtain ⟨q0, q1⟩ := HK.out w1 hgrow1; obtain ⟨a1, c1, rfl⟩ := own_slice hown1)
          have HR2 : Hid (M2 w W (.slice an k cn) m (.int .i64 ((j : Int) + 1 + 1)) (w1.setCell ⟨w.heap.size + 1, 1, none⟩ (.slice a1 (j + 1) c1))) := m2_step hlt2 hgl HH.out.1 HH.out.2.1 HH.out.2.2.1 HH.out.2.2.2.1 HH.out.2.2.2.2 hown1 hgrow1
          refine ⟨?_, ?_⟩
          · first | exact HR2.out | ((repeat apply Exists.intro); refine ⟨?_, rfl⟩; exact HR2.out)
          · simp [intOf]
            try omega
        · obtain rfl : j = m := by omega
          have hR2 : wr.heap[w.heap.size]? = some (.cells #[.slice none 0 0, .slice none 0 0] 29 (0, 0)) := (hK _ (by omega) (by omega)).trans HX.out.2.2.2
          have r0 := cell_of (i := 0) hR2 rfl
          have r1 := cell_of (i := 1) hR2 rfl
          have fr0 := frz_of (i := 0) hR2
          have fr1 := frz_of (i := 1) hR2
          have hfin := many_end HX.out.1 HX.out.2.1 HX.out.2.2.1 HX.out.2.2.2 hgl HS.out.1 HH.out.1 HH.out.2.1 HH.out.2.2.1 HH.out.2.2.2.1 HH.out.2.2.2.2
          have HF : Hid (RowN w.heap.size ((wr.setCell ⟨w.heap.size, 0, none⟩ (.slice an k cn)).setCell ⟨w.heap.size, 1, none⟩ (.slice a2 j c2)) (.slice an k cn) k ∧ IsT ((wr.setCell ⟨w.heap.size, 0, none⟩ (.slice an k cn)).setCell ⟨w.heap.size, 1, none⟩ (.slice a2 j c2)) (.slice a2 j c2) (rowT j) ∧ Below w.heap.size w ((wr.setCell ⟨w.heap.size, 0, none⟩ (.slice an k cn)).setCell ⟨w.heap.size, 1, none⟩ (.slice a2 j c2))) := hfin
          clear hO hG hK hs hB hfin hR2
          have s1 : ((wr.setCell ⟨w.heap.size, 0, none⟩ (.slice an k cn)).setCell ⟨w.heap.size, 1, none⟩ (.slice a2 j c2)).cell? ⟨w.heap.size, 1, none⟩ = some (.slice a2 j c2) := World.cell?_setCell_same' _ _ _ (by rw [cell_oth (by simp), r1]; rfl)
          have s0 : ((wr.setCell ⟨w.heap.size, 0, none⟩ (.slice an k cn)).setCell ⟨w.heap.size, 1, none⟩ (.slice a2 j c2)).cell? ⟨w.heap.size, 0, none⟩ = some (.slice an k cn) := by
            refine (cell_oth (by simp)).trans ?_
            exact World.cell?_setCell_same' _ _ _ (by rw [r0]; rfl)
          have HS01 : Hid (((wr.setCell ⟨w.heap.size, 0, none⟩ (.slice an k cn)).setCell ⟨w.heap.size, 1, none⟩ (.slice a2 j c2)).cell? ⟨w.heap.size, 0, none⟩ = some (.slice an k cn) ∧ ((wr.setCell ⟨w.heap.size, 0, none⟩ (.slice an k cn)).setCell ⟨w.heap.size, 1, none⟩ (.slice a2 j c2)).cell? ⟨w.heap.size, 1, none⟩ = some (.slice a2 j c2)) := ⟨s0, s1⟩
          clear s0 s1
          go_wp2
          refine bodyPost_ret (v := .agg #[.slice an k cn, .slice a2 j c2]) ?_ rfl ⟨an, cn, a2, c2, rfl, HF.out⟩
          obtain ⟨s0, s1⟩ := HS01.out
          simp [results, Tryz.results15, go_sem, s0, s1]
end Go.Proofs.YtffiddpnkiejkaaGreat

/-
  The walk of the law GuardSame.
-/
namespace Go.Proofs.YtffiddpnkiejkaaGreat
open Go.RowKit
set_option linter.unusedVariables false
set_option linter.unusedSimpArgs false

/-- Gone of a node. -/
abbrev oG (id : Int) : Opx := ⟨2, ⟨id, ⟨#[]⟩, .slice none 0 0, []⟩, ⟨⟨#[]⟩, 0, 0, ⟨#[]⟩⟩, ⟨⟨#[]⟩, 0, 0⟩⟩
theorem oG_sz (id : Int) : OpSz (oG id) := by
  have h0 : (⟨#[]⟩ : ByteArray).size ≤ maxLen := by decide
  exact ⟨⟨h0, fun p hp => (by cases hp), by show 0 ≤ maxLen; decide⟩, ⟨h0, h0⟩, h0⟩
theorem isR_nil (w : World) : IsR w (.slice none 0 0) [] := ⟨none, 0, rfl, .inl rfl⟩
/-- The graph of two nodes and one tie. -/
def two : List Nd := [⟨1, ⟨#[97]⟩, .nilIface, [prK 1]⟩, ⟨2, ⟨#[97]⟩, .nilIface, [prK 2]⟩]
def oneT : List Te := [⟨⟨#[112]⟩, 1, 2⟩]
theorem two_of {N : List Nd} (hl : N.length = 2) (h : ∀ (j : Nat) (x : Nd), N[j]? = some x → x.id = (j : Int) + 1 ∧ x.kd = ⟨#[97]⟩ ∧ x.rc = [prK ((j : Int) + 1)]) : cN N = two := by
  match N, hl with
  | [a, b], _ =>
    obtain ⟨a1, a2, a3⟩ := h 0 a rfl
    obtain ⟨b1, b2, b3⟩ := h 1 b rfl
    obtain ⟨ai, ak, av, ar⟩ := a
    obtain ⟨bi, bk, bv, br⟩ := b
    simp only at a1 a2 a3 b1 b2 b3
    subst a1 a2 a3 b1 b2 b3
    rfl
theorem rowT_one : rowT 1 = oneT := by simp [rowT, List.range_succ, tK, oneT]
theorem two_fnd : fndN 2 two = true := by decide +kernel
theorem two_lo : loN 2 two = 1 := by decide +kernel
theorem two_tie : oneT.filter (keepT 2) = [] := by decide +kernel
/-- The law's own fact, in plain words. -/
theorem fact_ok {N : List Nd} {vo vf : Value} (hl : N.length = 2) (h : ∀ (j : Nat) (x : Nd), N[j]? = some x → x.id = (j : Int) + 1 ∧ x.kd = ⟨#[97]⟩ ∧ x.rc = [prK ((j : Int) + 1)]) :
    CkOk [kdA vo vf] [bdP (-1)] N (rowT 1) [oG 2] ∧ mayB [kdA vo vf] [bdP (-1)] N (rowT 1) [oG 2] = true := by
  have hP : RowP N (fun j => (j : Int) + 1) := h
  have hg : gErr N (rowT 1) = 0 := rowP_gErr hP (fun j hj => by rw [hl] at hj; constructor <;> omega) (by omega) (by omega)
  have hs : (sErr [kdA vo vf] [bdP (-1)]).2 = 0 := sErr_a vo vf (.inl rfl)
  have hi : inE [kdA vo vf] [bdP (-1)] N (rowT 1) = 0 := by unfold inE; rw [if_pos hs, hg]
  have hc := two_of hl h
  have he : opS.e (oG 2) (cN N) (rowT 1) = 0 := by
    show (if fndN 2 (cN N) = true then (0 : Int) else 5) = 0
    rw [hc, two_fnd]; rfl
  refine ⟨⟨hi, ?_, by simp, hg, ?_⟩, ?_⟩
  · unfold confB
    rw [hi, row_all hP (by rw [hl]; decide)]
    rfl
  · show (if opS.e (oG 2) (cN N) (rowT 1) = 0 then _ else _) = (0 : Int)
    rw [if_pos he]; rfl
  · have hr : opS.res [oG 2] (cN N) (rowT 1) = ([⟨1, ⟨#[97]⟩, .nilIface, [prK 1]⟩], rowT 0) := by
      show (if opS.e (oG 2) (cN N) (rowT 1) = 0 then _ else _) = _
      rw [if_pos he, hc, rowT_one]
      show (two.eraseIdx (loN 2 two), oneT.filter (keepT 2)) = _
      rw [two_lo, two_tie]; rfl
    unfold mayB resN resT
    rw [hr]
    have hP1 : RowP [⟨1, ⟨#[97]⟩, .nilIface, [prK 1]⟩] (fun j => (j : Int) + 1) := by
      intro j x hx
      match j with
      | 0 => obtain rfl : (⟨1, ⟨#[97]⟩, .nilIface, [prK 1]⟩ : Nd) = x := by simpa using hx
             exact ⟨rfl, rfl, rfl⟩
      | j + 1 => simp at hx
    rw [row_all hP1 (m := 0) (by simp)]
    rfl
abbrev oGW (W : World) : World := W.alloc (.cells #[.int .i64 2, .int .i64 2, .string ⟨#[]⟩, .slice none 0 0, .string ⟨#[]⟩, .int .i64 0, .int .i64 0, .string ⟨#[]⟩, .string ⟨#[]⟩, .int .i64 0, .int .i64 0] 47)
theorem oGW_isO (W : World) : IsO (oGW W) (.slice (some ⟨W.heap.size, 0, none⟩) 1 1) [oG 2] := by
  have hn := heap_alloc_new W (.cells #[.int .i64 2, .int .i64 2, .string ⟨#[]⟩, .slice none 0 0, .string ⟨#[]⟩, .int .i64 0, .int .i64 0, .string ⟨#[]⟩, .string ⟨#[]⟩, .int .i64 0, .int .i64 0] 47)
  refine ⟨_, 1, rfl, Nat.le_refl _, .inr ⟨W.heap.size, 0, rfl, by simp, fun k x hx => ?_⟩⟩
  obtain ⟨rfl, rfl⟩ : k = 0 ∧ oG 2 = x := by
    have := (List.getElem?_eq_some_iff.1 hx).1
    have hk : k = 0 := by simp at this; exact this
    subst hk
    exact ⟨rfl, by simpa using hx⟩
  refine ⟨fun i u hu => ?_, isR_nil _⟩
  have e : 0 + 0 * 11 + i = i := by omega
  rw [e]
  exact cell_at hn (by simpa [Opx.cells] using hu)
theorem fact_may {W : World} {vs : Value} {an am : Option Addr} {cn cm : Nat} {vo vf : Value} {B0 : Nat} (hs : IsSc W vs [kdA vo vf] [bdP (-1)]) (hN : RowN B0 W (.slice an 2 cn) 2) (hT : IsT W (.slice am 1 cm) (rowT 1)) :
    Calls Tryz.prog 13 #[vs, .agg #[.slice an 2 cn, .slice am 1 cm], .slice (some ⟨W.heap.size, 0, none⟩) 1 1] (oGW W) fun e w' => e = .returned (.tuple #[.bool true, .nilIface]) ∧ Below (oGW W).heap.size (oGW W) w' := by
  obtain ⟨N, base, _, h1, h2, h3, _⟩ := hN
  obtain ⟨k1, k2⟩ := fact_ok (vo := vo) (vf := vf) h1 h3
  have hB : Below W.heap.size W (oGW W) := b_alloc (Below.refl _ _) _
  have hP : RowP N (fun j => (j : Int) + 1) := h3
  have c := may_yes (hs.on hB) (vg := .agg #[.slice an 2 cn, .slice am 1 cm]) ⟨_, _, rfl, h2.on hB, hT.on hB, rowP_szN hP, row_szT 1, by rw [h1]; decide, by rw [rowT_len]; decide⟩ (oGW_isO W) (fun o ho => by simp at ho; subst ho; exact oG_sz 2) k1
  rw [k2] at c
  exact c

set_option maxHeartbeats 8000000 in
set_option maxRecDepth 100000 in
theorem same_any {vs vg vl : Value} {L : List Kd} {B : List Bd} {N : List Nd} {T : List Te} {O : List Opx} {w : World} (hs : IsSc w vs L B) (hg : IsG w vg N T) (hl : IsO w vl O) (zl : ∀ o ∈ O, OpSz o) (lO : O.length ≤ maxLen) :
    Calls Tryz.prog 4 #[vs, vg, vl] w fun e w' => e = .returned (.bool true) ∧ Below w.heap.size w w' := by
  have HP : Hid (IsSc w vs L B ∧ IsG w vg N T ∧ IsO w vl O) := ⟨hs, hg, hl⟩
  obtain ⟨a1, n1, c1, b1, m1, d1, rfl⟩ := isSc_sl hs
  obtain ⟨a2, n2, c2, b2, m2, d2, rfl⟩ := isG_sl hg
  obtain ⟨a3, n3, c3, rfl⟩ := isO_sl hl
  obtain ⟨W0, hW0⟩ : ∃ W0, W0 = box2 w #[.slice a1 n1 c1, .slice b1 m1 d1] 25 #[.slice a2 n2 c2, .slice b2 m2 d2] 29 := ⟨_, rfl⟩
  have HB0 : Hid (Below w.heap.size w W0) := by rw [hW0]; exact box2_below _ _ _ _ _
  have x0 : W0.cell? ⟨w.heap.size, 0, none⟩ = some (.slice a1 n1 c1) := by rw [hW0]; exact box2_a _ _ _ _ _ rfl
  have x1 : W0.cell? ⟨w.heap.size, 1, none⟩ = some (.slice b1 m1 d1) := by rw [hW0]; exact box2_a _ _ _ _ _ rfl
  have x2 : W0.cell? ⟨w.heap.size + 1, 0, none⟩ = some (.slice a2 n2 c2) := by rw [hW0]; exact box2_b _ _ _ _ _ rfl
  have x3 : W0.cell? ⟨w.heap.size + 1, 1, none⟩ = some (.slice b2 m2 d2) := by rw [hW0]; exact box2_b _ _ _ _ _ rfl
  have hs0 : W0.heap.size = w.heap.size + 2 := by rw [hW0]; exact box2_size _ _ _ _ _
  have HC : Hid (∀ W, Below W0.heap.size W0 W → Below w.heap.size w W ∧ (W.cell? ⟨w.heap.size, 0, none⟩ = some (.slice a1 n1 c1) ∧ W.cell? ⟨w.heap.size, 1, none⟩ = some (.slice b1 m1 d1)) ∧ W.cell? ⟨w.heap.size + 1, 0, none⟩ = some (.slice a2 n2 c2) ∧ W.cell? ⟨w.heap.size + 1, 1, none⟩ = some (.slice b2 m2 d2)) := fun W hB =>
    ⟨on1K HB0.out hB (Nat.le_refl _), ⟨(hB.cell (p := ⟨w.heap.size, 0, none⟩) (by show w.heap.size < _; omega)).trans x0, (hB.cell (p := ⟨w.heap.size, 1, none⟩) (by show w.heap.size < _; omega)).trans x1⟩, (hB.cell (p := ⟨w.heap.size + 1, 0, none⟩) (by show w.heap.size + 1 < _; omega)).trans x2, (hB.cell (p := ⟨w.heap.size + 1, 1, none⟩) (by show w.heap.size + 1 < _; omega)).trans x3⟩
  have cS := simple_sc (-1) W0
  have HM : Hid (∀ W, Calls Tryz.prog 15 #[.int .i64 2, .int .i64 1] W (ManyP W 2 1)) := fun W => many_any 2 1 (by omega) (by omega) W
  have HK : Hid (∀ (W1 W2 : World) (vs : Value) (an am : Option Addr) (cn cm : Nat) (vo vf : Value), IsSc W1 vs [kdA vo vf] [bdP (-1)] → Below W1.heap.size W1 W2 → RowN W1.heap.size W2 (.slice an 2 cn) 2 → IsT W2 (.slice am 1 cm) (rowT 1) → Calls Tryz.prog 13 #[vs, .agg #[.slice an 2 cn, .slice am 1 cm], .slice (some ⟨W2.heap.size, 0, none⟩) 1 1] (oGW W2) fun e w' => e = .returned (.tuple #[.bool true, .nilIface]) ∧ Below (oGW W2).heap.size (oGW W2) w') := fun W1 W2 vs an am cn cm vo vf h1 h2 h3 h4 => fact_may (h1.on h2) h3 h4
  clear hs hg hl
  by_cases h : CkOk L B N T O
  · have HY : Hid (∀ W, Below w.heap.size w W → Calls Tryz.prog 13 #[.agg #[.slice a1 n1 c1, .slice b1 m1 d1], .agg #[.slice a2 n2 c2, .slice b2 m2 d2], .slice a3 n3 c3] W fun e w' => e = .returned (.tuple #[.bool (mayB L B N T O), .nilIface]) ∧ Below W.heap.size W w') := fun W hB => may_yes (HP.out.1.on hB) (HP.out.2.1.on hB) (HP.out.2.2.on hB) zl h
    have HA : Hid (∀ W, Below w.heap.size w W → Calls Tryz.prog 6 #[.agg #[.slice a2 n2 c2, .slice b2 m2 d2], .slice a3 n3 c3] W fun e w' => ∃ a l c b m d M, e = .returned (.tuple #[.agg #[.slice a l c, .slice b m d], .int .i64 0, .nilIface]) ∧ cN M = resN N T O ∧ OwnNs w' W.heap.size (.slice a l c) M ∧ OwnTs w' W.heap.size (.slice b m d) (resT N T O) ∧ gErr M (resT N T O) = 0 ∧ Below W.heap.size W w') := fun W hB => by
      obtain ⟨vn, vt, e, hN, hT, zN, zT, lN, lT⟩ := HP.out.2.1
      injection e with e
      obtain ⟨rfl, rfl⟩ : .slice a2 n2 c2 = vn ∧ .slice b2 m2 d2 = vt := by simpa using e
      exact all_yes (hN.on hB) (hT.on hB) zN zT (HP.out.2.2.on hB) zl h.2.2
    have HF : Hid (∀ W vn' vt' M, Below w.heap.size w W → IsN W vn' M → IsT W vt' (resT N T O) → cN M = resN N T O → gErr M (resT N T O) = 0 → Calls Tryz.prog 16 #[.agg #[.slice a1 n1 c1, .slice b1 m1 d1], .agg #[vn', vt']] W fun e w' => e = .returned (.tuple #[.bool (mayB L B N T O), .nilIface]) ∧ Below W.heap.size W w') := fun W vn' vt' M hB h1 h2 h3 h4 => by
      obtain ⟨z1, z2⟩ := gErr_sz h4
      obtain ⟨l1, l2, _⟩ := gErr_lens h4
      have c := conforms_any (HP.out.1.on hB) (N := M) (T := resT N T O) (vg := .agg #[vn', vt']) ⟨_, _, rfl, h1, h2, z1, z2, by unfold maxLen; omega, by unfold maxLen; omega⟩
      have he : inE L B M (resT N T O) = 0 := by
        have h0 := h.1
        unfold inE at h0 ⊢
        by_cases hq : (sErr L B).2 = 0
        · rw [if_pos hq]; exact h4
        · rw [if_neg hq] at h0; exact absurd h0 hq
      have e1 : allF L B M (resT N T O) = allF L B (resN N T O) (resT N T O) := allF_eq (h3.trans (resN_c h3).symm)
      have e2 : confB L B M (resT N T O) = mayB L B N T O := by
        unfold confB mayB
        rw [he, e1]; simp
      rw [he, e2, errV_0] at c
      exact c
    clear h zl lO
    generalize mayB L B N T O = mb at HY HF
    generalize resN N T O = RN at HA HF
    generalize resT N T O = RT at HA HF
    go_enter Tryz.func4, Tryz.ntmps4
    go_upto_region 1 with fail
    unfold box2 at hW0
    rw [← hW0]
    clear hW0
    go_wp2_with (first | (go_at_call 14; refine cS.mono ?_; rintro e W1 ⟨vs, vo, vf, rfl, hs1, hB1⟩; refine Hid.out ?_))
    refine Lib.hid ?_
    have cM := HM.out W1
    unfold ManyP at cM
    obtain ⟨q1, q2, q3, q4, q5, q6, rfl⟩ := isSc_sl hs1
    have H1 := Lib.hid (And.intro hs1 hB1)
    clear hs1 hB1 cS x0 x1 x2 x3
    go_wp2_with (first | (go_at_call 15; refine cM.mono ?_; rintro e W2 ⟨an, cn, am, cm, rfl, hN2, hT2, hB2⟩; refine Hid.out ?_))
    refine Lib.hid ?_
    have cK := HK.out W1 W2 _ an am cn cm vo vf H1.out.1 hB2 hN2 hT2
    have H2 : Hid (Below W0.heap.size W0 (oGW W2)) := on1K H1.out.2 (b_alloc hB2 _) (Nat.le_refl _)
    unfold oGW at cK
    clear cM hN2 hT2 hB2
    go_wp2_with (first | (go_at_call 13; refine cK.mono ?_; rintro e W3 ⟨rfl, hB3⟩; refine Hid.out ?_))
    refine Lib.hid ?_
    have hB03 := on1K H2.out hB3 (Nat.le_refl _)
    obtain ⟨hbw, ⟨y0, y1⟩, y2, y3⟩ := HC.out W3 hB03
    have cY := HY.out W3 hbw
    have H3 := Lib.hid hB03
    clear cK hB03 hB3 hbw
    go_wp2_with (first | (go_at_call 13; refine cY.mono ?_; rintro e W4 ⟨rfl, hB4⟩; refine Hid.out ?_))
    refine Lib.hid ?_
    have hB04 := on1K H3.out hB4 (Nat.le_refl _)
    obtain ⟨hbw, ⟨z0, z1⟩, z2, z3⟩ := HC.out W4 hB04
    have cA := HA.out W4 hbw
    have H4 := Lib.hid hB04
    clear cY hB04 hB4 hbw y0 y1 y2 y3
    go_wp2_with (first | (go_at_call 6; refine cA.mono ?_; rintro e W5 ⟨a, l, c, b, m, d, M, rfl, hM, o1, o2, g4, hB5⟩; refine Hid.out ?_))
    refine Lib.hid ?_
    obtain ⟨W6, hW6⟩ : ∃ W6, W6 = W5.alloc (.cells #[.slice a l c, .slice b m d] 29) := ⟨_, rfl⟩
    have hB6 : Below W5.heap.size W5 W6 := by rw [hW6]; exact b_alloc (Below.refl _ _) _
    have n6 : W6.heap[W5.heap.size]? = some (.cells #[.slice a l c, .slice b m d] 29 (0, 0)) := by rw [hW6]; exact heap_alloc_new W5 _
    have hB06 := on1K H4.out (on1K hB5 hB6 (Nat.le_refl _)) (Nat.le_refl _)
    obtain ⟨hbw6, ⟨t0, t1⟩, _, _⟩ := HC.out W6 hB06
    have m0 : W6.cell? ⟨W5.heap.size, 0, none⟩ = some (.slice a l c) := cell_at n6 rfl
    have m1' : W6.cell? ⟨W5.heap.size, 1, none⟩ = some (.slice b m d) := cell_at n6 rfl
    have cF := HF.out W6 _ _ M hbw6 ((o1.kt (.of_below hB6) (.of_below hB6)).isN) ((o2.kt (.of_below hB6)).isT) hM g4
    have H6 := Lib.hid hbw6
    clear cA z0 z1 z2 z3 o1 o2 hM g4 hB5 hB6 n6 hB06 hbw6
    go_upto_region 8 with fail
    rw [← hW6]
    clear hW6
    go_wp2_with (first | (go_at_call 16; refine cF.mono ?_; rintro e W7 ⟨rfl, hB7⟩))
    go_ret
    exact ⟨ret_v (by cases mb <;> rfl), on1K H6.out hB7 (Nat.le_refl _)⟩
  · have HY : Hid (∀ W, Below w.heap.size w W → Calls Tryz.prog 13 #[.agg #[.slice a1 n1 c1, .slice b1 m1 d1], .agg #[.slice a2 n2 c2, .slice b2 m2 d2], .slice a3 n3 c3] W fun e w' => ∃ z, z ≠ 0 ∧ e = .returned (.tuple #[.bool false, .iface 74 (.int .i64 z)]) ∧ Below W.heap.size W w') := fun W hB => may_no (HP.out.1.on hB) (HP.out.2.1.on hB) (HP.out.2.2.on hB) zl lO h
    clear h zl lO
    go_enter Tryz.func4, Tryz.ntmps4
    go_upto_region 1 with fail
    unfold box2 at hW0
    rw [← hW0]
    clear hW0
    go_wp2_with (first | (go_at_call 14; refine cS.mono ?_; rintro e W1 ⟨vs, vo, vf, rfl, hs1, hB1⟩; refine Hid.out ?_))
    refine Lib.hid ?_
    have cM := HM.out W1
    unfold ManyP at cM
    obtain ⟨q1, q2, q3, q4, q5, q6, rfl⟩ := isSc_sl hs1
    have H1 := Lib.hid (And.intro hs1 hB1)
    clear hs1 hB1 cS x0 x1 x2 x3
    go_wp2_with (first | (go_at_call 15; refine cM.mono ?_; rintro e W2 ⟨an, cn, am, cm, rfl, hN2, hT2, hB2⟩; refine Hid.out ?_))
    refine Lib.hid ?_
    have cK := HK.out W1 W2 _ an am cn cm vo vf H1.out.1 hB2 hN2 hT2
    have H2 : Hid (Below W0.heap.size W0 (oGW W2)) := on1K H1.out.2 (b_alloc hB2 _) (Nat.le_refl _)
    unfold oGW at cK
    clear cM hN2 hT2 hB2
    go_wp2_with (first | (go_at_call 13; refine cK.mono ?_; rintro e W3 ⟨rfl, hB3⟩; refine Hid.out ?_))
    refine Lib.hid ?_
    have hB03 := on1K H2.out hB3 (Nat.le_refl _)
    obtain ⟨hbw, ⟨y0, y1⟩, y2, y3⟩ := HC.out W3 hB03
    have cY := HY.out W3 hbw
    have H3 := Lib.hid hbw
    clear cK hB03 hB3 hbw
    go_wp2_with (first | (go_at_call 13; refine cY.mono ?_; rintro e W4 ⟨z, hz, rfl, hB4⟩; have HZ := Lib.hid hz; clear hz))
    go_ret
    exact ⟨rfl, on1K H3.out hB4 (Nat.le_refl _)⟩
end Go.Proofs.YtffiddpnkiejkaaGreat

/-
  What GuardNear's own walk needs: its fact; that ends which are not touched are the same behind ops.
-/
namespace Go.Proofs.YtffiddpnkiejkaaGreat
open Go.RowKit
set_option linter.unusedVariables false
set_option linter.unusedSimpArgs false

/-- The nodes of the law's fact. -/
def factN : List Nd := [⟨1, ⟨#[97]⟩, .slice none 0 0, []⟩, ⟨2, ⟨#[97]⟩, .slice none 0 0, []⟩]
theorem fact_all : AllOk factN oneT [oG 2] := by
  refine ⟨by simp, ?_, ?_⟩
  · decide +kernel
  · decide +kernel
theorem fact_tou : touA oneT [oG 2] = [1, 2] := by decide +kernel
theorem fact_sz : SzN factN ∧ SzT oneT := gErr_sz fact_all.2.1
theorem fact_any {W : World} {vn vt vl : Value} (hN : IsN W vn factN) (hT : IsT W vt oneT) (hO : IsO W vl [oG 2]) :
    Calls Tryz.prog 5 #[.agg #[vn, vt], vl] W fun e w' => ∃ b c, e = .returned (.tuple #[.slice (some ⟨b, 0, none⟩) 2 c, .nilIface]) ∧ w'.cell? ⟨b, 0, none⟩ = some (.int .i64 1) ∧ Below W.heap.size W w' := by
  refine (touched_yes hN hT fact_sz.1 fact_sz.2 hO (fun o ho => by rw [List.mem_singleton.1 ho]; exact oG_sz 2) fact_all).mono ?_
  rintro e w' ⟨v, L, rfl, hI, hm, _, hp, hB⟩
  have hL : L = [1, 2] := srt_ext (r := (· < ·)) (fun a b h1 h2 => by omega) hp (by simp) (fun x => by rw [hm x, fact_tou])
  subst hL
  rcases hI with ⟨_, h⟩ | ⟨b, c, rfl, _, _, hc⟩
  · cases h
  · exact ⟨b, c, rfl, hc 0 1 rfl, hB⟩

/-- Ends of ties at a node that is not touched. -/
theorem outs_near {T0 U : List Te} {X G : List Int} {M0 M : List Nd} (hu : Un T0 X G M0 M U) (t0 : SrtT T0) (t1 : SrtT U) {id : Int} (hi : id ∉ X) (bd : ByteArray) : outs U bd id = outs T0 bd id := by
  unfold outs
  rw [srtT_ext (A := U.filter fun t => t.hit bd && t.fr == id) (B := T0.filter fun t => t.hit bd && t.fr == id) (List.Pairwise.filter _ t1) (List.Pairwise.filter _ t0) (fun t => ?_)]
  rw [List.mem_filter, List.mem_filter]
  refine ⟨fun ⟨a, b⟩ => ⟨(hu.te t (.inl ?_)).1 a, b⟩, fun ⟨a, b⟩ => ⟨(hu.te t (.inl ?_)).2 a, b⟩⟩
  · have : t.fr = id := by simp at b; exact b.2
    rw [this]; exact hi
  · have : t.fr = id := by simp at b; exact b.2
    rw [this]; exact hi
end Go.Proofs.YtffiddpnkiejkaaGreat

/-
  GuardNear's fact, where the law builds it.
-/
namespace Go.Proofs.YtffiddpnkiejkaaGreat
open Go.RowKit
set_option linter.unusedVariables false
set_option linter.unusedSimpArgs false

/-- The law's own graph. -/
abbrev fcW (W : World) : World := ((W.alloc (.cells #[.int .i64 1, .string ⟨#[97]⟩, .slice none 0 0, .int .i64 2, .string ⟨#[97]⟩, .slice none 0 0] 34)).alloc (.cells #[.string ⟨#[112]⟩, .int .i64 1, .int .i64 2] 36)).alloc (.cells #[.slice (some ⟨W.heap.size, 0, none⟩) 2 2, .slice (some ⟨W.heap.size + 1, 0, none⟩) 1 1] 29)
theorem fc_below (W : World) : Below W.heap.size W (oGW (fcW W)) := b_alloc (b_alloc (b_alloc (b_alloc (Below.refl _ _) _) _) _) _
theorem fc_isN (W : World) : IsN (W.alloc (.cells #[.int .i64 1, .string ⟨#[97]⟩, .slice none 0 0, .int .i64 2, .string ⟨#[97]⟩, .slice none 0 0] 34)) (.slice (some ⟨W.heap.size, 0, none⟩) 2 2) factN := by
  have hn := heap_alloc_new W (.cells #[.int .i64 1, .string ⟨#[97]⟩, .slice none 0 0, .int .i64 2, .string ⟨#[97]⟩, .slice none 0 0] 34)
  refine ⟨_, 2, rfl, Nat.le_refl _, .inr ⟨W.heap.size, 0, rfl, by simp, fun k x hx => ?_⟩⟩
  have hk : k < 2 := (List.getElem?_eq_some_iff.1 hx).1
  obtain rfl | rfl : k = 0 ∨ k = 1 := by omega
  · obtain rfl := Option.some.inj hx
    exact ⟨cell_at hn rfl, cell_at hn rfl, cell_at hn rfl, isR_nil _⟩
  · obtain rfl := Option.some.inj hx
    exact ⟨cell_at hn rfl, cell_at hn rfl, cell_at hn rfl, isR_nil _⟩
theorem fc_isT (W : World) : IsT (W.alloc (.cells #[.string ⟨#[112]⟩, .int .i64 1, .int .i64 2] 36)) (.slice (some ⟨W.heap.size, 0, none⟩) 1 1) oneT := by
  have hn := heap_alloc_new W (.cells #[.string ⟨#[112]⟩, .int .i64 1, .int .i64 2] 36)
  refine ⟨_, 1, rfl, Nat.le_refl _, .inr ⟨W.heap.size, 0, rfl, by simp, fun k x hx => ?_⟩⟩
  have hk : k < 1 := (List.getElem?_eq_some_iff.1 hx).1
  obtain rfl : k = 0 := by omega
  obtain rfl := Option.some.inj hx
  exact ⟨cell_at hn rfl, cell_at hn rfl, cell_at hn rfl⟩
theorem fc_any (W : World) : Calls Tryz.prog 5 #[.agg #[.slice (some ⟨W.heap.size, 0, none⟩) 2 2, .slice (some ⟨W.heap.size + 1, 0, none⟩) 1 1], .slice (some ⟨W.heap.size + 1 + 1 + 1, 0, none⟩) 1 1] (oGW (fcW W)) fun e w' => ∃ b c, e = .returned (.tuple #[.slice (some ⟨b, 0, none⟩) 2 c, .nilIface]) ∧ w'.cell? ⟨b, 0, none⟩ = some (.int .i64 1) ∧ Below W.heap.size W w' := by
  have hO := oGW_isO (fcW W)
  rw [show (fcW W).heap.size = W.heap.size + 1 + 1 + 1 by simp [fcW]] at hO
  have h1 := fc_isT (W.alloc (.cells #[.int .i64 1, .string ⟨#[97]⟩, .slice none 0 0, .int .i64 2, .string ⟨#[97]⟩, .slice none 0 0] 34))
  rw [show (W.alloc (.cells #[.int .i64 1, .string ⟨#[97]⟩, .slice none 0 0, .int .i64 2, .string ⟨#[97]⟩, .slice none 0 0] 34)).heap.size = W.heap.size + 1 by simp] at h1
  refine (fact_any ((fc_isN W).on (b_alloc (b_alloc (b_alloc (Below.refl _ _) _) _) _)) (h1.on (b_alloc (b_alloc (Below.refl _ _) _) _)) hO).mono ?_
  rintro e w' ⟨b, c, rfl, h, hB⟩
  exact ⟨b, c, rfl, h, on1K (fc_below W) hB (Nat.le_refl _)⟩

end Go.Proofs.YtffiddpnkiejkaaGreat
