/-
  The walk of kinsame.Schema: two schemas that say the same.
-/
import Derived.Test.YtkmkhadacppdnaaGreatDoorM10
import Derived.Deep.QuietTactic
import Derived.BigQuiet
import Derived.Test.YtkmkhadacppdnaaGreatDoorM07
import Derived.LaidEql
import Derived.Stop.Asserts
import Derived.RowKitTokens
import Derived.Laws.Cover1
namespace Go.Proofs.YtkmkhadacppdnaaGreatDoor
open Go.RowKit
set_option linter.unusedVariables false
set_option linter.unusedSimpArgs false

theorem isF_view {w : World} {v : Value} {l : List Fd} (h : IsF w v l) : ∃ ao c, v = .slice ao l.length c ∧ ∀ (j : Nat) g, l[j]? = some g → ∃ b o, ao = some ⟨b, o, none⟩ ∧ b < w.heap.size ∧ w.cell? ⟨b, o + j * 4, none⟩ = some (.string (bs g.nm)) ∧ w.cell? ⟨b, o + j * 4 + 1, none⟩ = some (.int .i64 g.t) ∧ w.cell? ⟨b, o + j * 4 + 2, none⟩ = some (.bool g.must) ∧ w.cell? ⟨b, o + j * 4 + 3, none⟩ = some (.bool g.key) := by
  rcases h with ⟨ao, c, rfl, rfl, _⟩ | ⟨b, off, cap, rfl, _, _, hb, hl⟩
  · exact ⟨ao, c, rfl, fun j g hg => by simp at hg⟩
  · exact ⟨_, _, rfl, fun j g hg => ⟨b, off, rfl, hb, hl j g hg⟩⟩
theorem isK_view {w : World} {v : Value} {l : List Kd} (h : IsK w v l) : ∃ ao c, v = .slice ao l.length c ∧ l.length ≤ maxLen ∧ ∀ (j : Nat) g, l[j]? = some g → ∃ b o, ao = some ⟨b, o, none⟩ ∧ b < w.heap.size ∧ LiesK w b o l := by
  rcases h with ⟨rfl, rfl⟩ | ⟨b, off, cap, rfl, h1, h2, hb, hl⟩
  · exact ⟨none, 0, rfl, by unfold maxLen; simp, fun j g hg => by simp at hg⟩
  · exact ⟨_, _, rfl, by omega, fun j g hg => ⟨b, off, rfl, hb, hl⟩⟩
/-- A list of names as a value: how long it is, and where each stands. -/
theorem isS_view {w : World} {v : Value} {l : List Nm} (h : IsS w v l) : ∃ ao c, v = .slice ao l.length c ∧ ∀ j g, l[j]? = some g → ∃ b o, ao = some ⟨b, o, none⟩ ∧ b < w.heap.size ∧ w.cell? ⟨b, o + j, none⟩ = some (.string (bs g)) := by
  rcases h with ⟨ao, c, rfl, rfl, _⟩ | ⟨b, off, cap, rfl, hc, hm, hb, hl⟩
  · exact ⟨ao, c, rfl, fun j g hg => by simp at hg⟩
  · exact ⟨_, _, rfl, fun j g hg => ⟨b, off, rfl, hb, hl j g hg⟩⟩
set_option maxHeartbeats 4000000 in
set_option maxRecDepth 100000 in
theorem texts_same {v u : Value} {l : List Nm} {w : World} (h1 : IsS w v l) (h2 : IsS w u l) (hn : l.length ≤ 1000) :
    Calls Tryz.prog 11 #[v, u] w fun e w' => e = .returned (.bool true) ∧ Below w.heap.size w w' := by
  obtain ⟨a1, c1, rfl, g1⟩ := isS_view h1
  obtain ⟨a2, c2, rfl, g2⟩ := isS_view h2
  have HG : Hid ((∀ j g, l[j]? = some g → ∃ b o, a1 = some ⟨b, o, none⟩ ∧ b < w.heap.size ∧ w.cell? ⟨b, o + j, none⟩ = some (.string (bs g))) ∧ (∀ j g, l[j]? = some g → ∃ b o, a2 = some ⟨b, o, none⟩ ∧ b < w.heap.size ∧ w.cell? ⟨b, o + j, none⟩ = some (.string (bs g)))) := ⟨g1, g2⟩
  clear h1 h2 g1 g2
  go_enter Tryz.func11, Tryz.ntmps11
  go_wp2
  go_loopw [5] (fun i wr => ∃ k : Nat, k ≤ l.length ∧ i = .int .i64 k ∧ Below w.heap.size w wr) (fun i _ => l.length - (intOf i).toNat)
  case atStart => exact ⟨0, Nat.zero_le _, rfl, Below.refl _ _⟩
  case round =>
    obtain ⟨k, hk, rfl, hB⟩ := hrel
    by_cases hlt : k < l.length
    · obtain ⟨p, hp⟩ : ∃ p, l[k]? = some p := ⟨l[k], by simp [hlt]⟩
      obtain ⟨b1, o1, rfl, hb1, m1⟩ := HG.out.1 k p hp
      obtain ⟨b2, o2, rfl, hb2, m2⟩ := HG.out.2 k p hp
      have x1 := (hB.cell (p := ⟨b1, o1 + k, none⟩) hb1).trans m1
      have x2 := (hB.cell (p := ⟨b2, o2 + k, none⟩) hb2).trans m2
      have HB : Hid (Below w.heap.size w wr) := hB
      have hki : (k : Int) < (l.length : Int) := by omega
      clear m1 m2 hB hp hb1 hb2
      go_wp2_with fail
      go_quiet (fail)
      go_wp2
      go_roundw
      case rel => exact ⟨k + 1, by omega, by go_num, b_drewK HB.out _⟩
      case measure => simp [intOf]; omega
    · go_wp2
      go_ret
      exact ⟨rfl, hB⟩
set_option maxHeartbeats 4000000 in
set_option maxRecDepth 100000 in
theorem fields_same {v u : Value} {l : List Fd} {w : World} (h1 : IsF w v l) (h2 : IsF w u l) (hn : l.length ≤ 1000) :
    Calls Tryz.prog 23 #[v, u] w fun e w' => e = .returned (.bool true) ∧ Below w.heap.size w w' := by
  obtain ⟨a1, c1, rfl, g1⟩ := isF_view h1
  obtain ⟨a2, c2, rfl, g2⟩ := isF_view h2
  have HG1 : Hid (∀ j g, l[j]? = some g → ∃ b o, a1 = some ⟨b, o, none⟩ ∧ b < w.heap.size ∧ w.cell? ⟨b, o + j * 4, none⟩ = some (.string (bs g.nm)) ∧ w.cell? ⟨b, o + j * 4 + 1, none⟩ = some (.int .i64 g.t) ∧ w.cell? ⟨b, o + j * 4 + 2, none⟩ = some (.bool g.must) ∧ w.cell? ⟨b, o + j * 4 + 3, none⟩ = some (.bool g.key)) := g1
  have HG2 : Hid (∀ j g, l[j]? = some g → ∃ b o, a2 = some ⟨b, o, none⟩ ∧ b < w.heap.size ∧ w.cell? ⟨b, o + j * 4, none⟩ = some (.string (bs g.nm)) ∧ w.cell? ⟨b, o + j * 4 + 1, none⟩ = some (.int .i64 g.t) ∧ w.cell? ⟨b, o + j * 4 + 2, none⟩ = some (.bool g.must) ∧ w.cell? ⟨b, o + j * 4 + 3, none⟩ = some (.bool g.key)) := g2
  clear h1 h2 g1 g2
  go_enter Tryz.func23, Tryz.ntmps23
  go_wp2
  go_loopw [5] (fun i wr => ∃ k : Nat, k ≤ l.length ∧ i = .int .i64 k ∧ Below w.heap.size w wr) (fun i _ => l.length - (intOf i).toNat)
  case atStart => exact ⟨0, Nat.zero_le _, rfl, Below.refl _ _⟩
  case round =>
    obtain ⟨k, hk, rfl, hB⟩ := hrel
    by_cases hlt : k < l.length
    · obtain ⟨p, hp⟩ : ∃ p, l[k]? = some p := ⟨l[k], by simp [hlt]⟩
      obtain ⟨b1, o1, rfl, hb1, m0, m1, m2, m3⟩ := HG1.out k p hp
      obtain ⟨b2, o2, rfl, hb2, n0, n1, n2, n3⟩ := HG2.out k p hp
      have x0 := (hB.cell (p := ⟨b1, o1 + k * 4, none⟩) hb1).trans m0
      have x1 := (hB.cell (p := ⟨b1, o1 + k * 4 + 1, none⟩) hb1).trans m1
      have x2 := (hB.cell (p := ⟨b1, o1 + k * 4 + 2, none⟩) hb1).trans m2
      have x3 := (hB.cell (p := ⟨b1, o1 + k * 4 + 3, none⟩) hb1).trans m3
      have y0 := (hB.cell (p := ⟨b2, o2 + k * 4, none⟩) hb2).trans n0
      have y1 := (hB.cell (p := ⟨b2, o2 + k * 4 + 1, none⟩) hb2).trans n1
      have y2 := (hB.cell (p := ⟨b2, o2 + k * 4 + 2, none⟩) hb2).trans n2
      have y3 := (hB.cell (p := ⟨b2, o2 + k * 4 + 3, none⟩) hb2).trans n3
      have HB : Hid (Below w.heap.size w wr) := hB
      have hki : (k : Int) < (l.length : Int) := by omega
      clear m0 m1 m2 m3 n0 n1 n2 n3 hB hp hb1 hb2
      go_wp2_with fail
      go_quiet (fail)
      go_wp2
      go_roundw
      case rel => exact ⟨k + 1, by omega, by go_num, b_drewK HB.out _⟩
      case measure => simp [intOf]; omega
    · go_wp2
      go_ret
      exact ⟨rfl, hB⟩

theorem kq_at {L L' : List Kd} (h : L.map (fun k => (k.nm, k.of, k.fs)) = L'.map (fun k => (k.nm, k.of, k.fs))) {i : Nat} {k k' : Kd} (h1 : L[i]? = some k) (h2 : L'[i]? = some k') : k.nm = k'.nm ∧ k.of = k'.of ∧ k.fs = k'.fs := by
  have e := congrArg (fun l => l[i]?) h
  simp only [List.getElem?_map, h1, h2, Option.map_some, Option.some.injEq, Prod.mk.injEq] at e
  exact e
theorem isS_sl' {w : World} {v : Value} {l : List Nm} (h : IsS w v l) : ∃ a c, v = .slice a l.length c := by
  obtain ⟨a, c, e, _⟩ := isS_view h
  exact ⟨a, c, e⟩
theorem isF_sl' {w : World} {v : Value} {l : List Fd} (h : IsF w v l) : ∃ a c, v = .slice a l.length c := by
  obtain ⟨a, c, e, _⟩ := isF_view h
  exact ⟨a, c, e⟩
set_option maxHeartbeats 8000000 in
set_option maxRecDepth 100000 in
theorem schema_same {vk vb uk ub : Value} {L L' : List Kd} {B : List Bd} {w : World} (hK : IsK w vk L) (hP : Parts w L) (hB : IsB w vb B) (hK' : IsK w uk L') (hP' : Parts w L') (hB' : IsB w ub B) (he : L.map (fun k => (k.nm, k.of, k.fs)) = L'.map (fun k => (k.nm, k.of, k.fs))) (lb : B.length ≤ 1000) (ll : L.length ≤ 1000) (sm : ∀ k ∈ L, k.of.length ≤ 1000 ∧ k.fs.length ≤ 1000) :
    Calls Tryz.prog 8 #[.agg #[vk, vb], .agg #[uk, ub]] w fun e w' => e = .returned (.bool true) ∧ Below w.heap.size w w' := by
  have hll : L.length = L'.length := by have := congrArg List.length he; simpa using this
  obtain ⟨W0, hW0⟩ : ∃ W0, W0 = (w.alloc (.cells #[vk, vb] 25)).alloc (.cells #[uk, ub] 25) := ⟨_, rfl⟩
  have hB0 : Below w.heap.size w W0 := by rw [hW0]; exact b_allocK (b_allocK (Below.refl _ _) (Nat.le_refl _) _) (Nat.le_refl _) _
  have n0 : W0.heap[w.heap.size]? = some (.cells #[vk, vb] 25 (0, 0)) := by rw [hW0]; exact (Below.heap_alloc _ _ _ (by simp)).trans (heap_alloc_new w _)
  have n1 : W0.heap[w.heap.size + 1]? = some (.cells #[uk, ub] 25 (0, 0)) := by
    have := heap_alloc_new (w.alloc (.cells #[vk, vb] 25)) (.cells #[uk, ub] 25)
    rw [World.size_alloc] at this; rw [hW0]; exact this
  have HX : Hid (∀ W, Below W0.heap.size W0 W → W.cell? ⟨w.heap.size, 0, none⟩ = some vk ∧ W.cell? ⟨w.heap.size, 1, none⟩ = some vb ∧ W.cell? ⟨w.heap.size + 1, 0, none⟩ = some uk ∧ W.cell? ⟨w.heap.size + 1, 1, none⟩ = some ub) := fun W hb => by
    have m0 := (hb.block _ (Array.getElem?_eq_some_iff.1 n0).1).trans n0
    have m1 := (hb.block _ (Array.getElem?_eq_some_iff.1 n1).1).trans n1
    refine ⟨?_, ?_, ?_, ?_⟩ <;> simp [World.cell?, m0, m1]
  obtain ⟨ak, ck, evk, _, hvk⟩ := isK_view hK
  obtain ⟨al, cl, euk, _, huk⟩ := isK_view hK'
  obtain ⟨ab, cb, evb, _, _, hvb⟩ := isB_view hB
  obtain ⟨ac, cc, eub, _, _, hub⟩ := isB_view hB'
  rw [← hll] at euk
  subst evk euk evb eub
  have HG : Hid (Below w.heap.size w W0 ∧ Parts w L ∧ Parts w L' ∧ (∀ (j : Nat) g, L[j]? = some g → ∃ b o, ak = some ⟨b, o, none⟩ ∧ b < w.heap.size ∧ LiesK w b o L) ∧ (∀ (j : Nat) g, L'[j]? = some g → ∃ b o, al = some ⟨b, o, none⟩ ∧ b < w.heap.size ∧ LiesK w b o L') ∧ (∀ (j : Nat) g, B[j]? = some g → ∃ b o, ab = some ⟨b, o, none⟩ ∧ b < w.heap.size ∧ LiesB w b o B) ∧ (∀ (j : Nat) g, B[j]? = some g → ∃ b o, ac = some ⟨b, o, none⟩ ∧ b < w.heap.size ∧ LiesB w b o B)) := ⟨hB0, hP, hP', hvk, huk, hvb, hub⟩
  have HLL := Lib.hid hll
  clear hll
  have HE := Lib.hid he
  have HSm := Lib.hid sm
  obtain ⟨x0, x1, x2, x3⟩ := HX.out W0 (Below.refl _ _)
  clear hK hP hB hK' hP' hB' he sm hvk huk hvb hub hB0 n0 n1
  go_enter Tryz.func8, Tryz.ntmps8
  go_upto_region 1 with fail
  rw [← hW0]
  clear hW0
  go_wp2
  go_loopw [5] (fun i wr => ∃ k : Nat, k ≤ L.length ∧ i = .int .i64 k ∧ Below W0.heap.size W0 wr) (fun i _ => L.length - (intOf i).toNat)
  case atStart => exact ⟨0, Nat.zero_le _, rfl, Below.refl _ _⟩
  case round =>
    obtain ⟨k, hk, rfl, hBr⟩ := hrel
    have HBr := Lib.hid hBr
    clear x0 x1 x2 x3
    obtain ⟨x0, x1, x2, x3⟩ := HX.out wr hBr
    by_cases hlt : k < L.length
    · obtain ⟨p, hp⟩ : ∃ p, L[k]? = some p := ⟨L[k], by simp [hlt]⟩
      obtain ⟨q, hq⟩ : ∃ q, L'[k]? = some q := ⟨L'[k]'(by have := HLL.out; omega), by rw [List.getElem?_eq_getElem]⟩
      obtain ⟨b1, o1, ea, hb1, l1⟩ := HG.out.2.2.2.1 k p hp
      obtain ⟨b2, o2, eb, hb2, l2⟩ := HG.out.2.2.2.2.1 k q hq
      subst ea eb
      obtain ⟨m0, m1, m2⟩ := l1 k p hp
      obtain ⟨r0, r1, r2⟩ := l2 k q hq
      have hbw := on1K HG.out.1 hBr (Nat.le_refl _)
      obtain ⟨e1, e2, e3⟩ := kq_at HE.out hp hq
      have hpp := HG.out.2.1 p (List.mem_of_getElem? hp)
      have hqq := HG.out.2.2.1 q (List.mem_of_getElem? hq)
      obtain ⟨s1, s2⟩ := HSm.out p (List.mem_of_getElem? hp)
      obtain ⟨nm, of, fs, vo, vf⟩ := p
      obtain ⟨nm', of', fs', uo, uf⟩ := q
      simp only at e1 e2 e3 hpp hqq s1 s2 m0 m1 m2 r0 r1 r2
      subst e1 e2 e3
      have y0 := (hbw.cell (p := ⟨b1, o1 + k * 3, none⟩) hb1).trans m0
      have y1 := (hbw.cell (p := ⟨b1, o1 + k * 3 + 1, none⟩) hb1).trans m1
      have y2 := (hbw.cell (p := ⟨b1, o1 + k * 3 + 2, none⟩) hb1).trans m2
      have z0 := (hbw.cell (p := ⟨b2, o2 + k * 3, none⟩) hb2).trans r0
      have z1 := (hbw.cell (p := ⟨b2, o2 + k * 3 + 1, none⟩) hb2).trans r1
      have z2 := (hbw.cell (p := ⟨b2, o2 + k * 3 + 2, none⟩) hb2).trans r2
      obtain ⟨ao, co, eo⟩ := isS_sl' hpp.1
      obtain ⟨af, cf, ef⟩ := isF_sl' hpp.2
      obtain ⟨ao', co', eo'⟩ := isS_sl' hqq.1
      obtain ⟨af', cf', ef'⟩ := isF_sl' hqq.2
      subst eo ef eo' ef'
      have hn1 : ¬ b1 = wr.heap.size := by have := hbw.size; omega
      have hn2 : ¬ b2 = wr.heap.size := by have := hbw.size; omega
      have hold : ∀ {a : Addr} {v : Value}, wr.cell? a = some v → ∀ o, (wr.alloc o).cell? a = some v := fun {a v} h o => ((b_allocK (Below.refl _ wr) (Nat.le_refl _) o).cell (World.block_lt_of_cell? wr _ h)).trans h
      have z0' := hold z0
      have z1' := hold z1
      have z2' := hold z2
      have x2' := hold x2
      have hB2 : Below wr.heap.size wr ((wr.alloc (.cells #[.string (bs nm), .slice ao of.length co, .slice af fs.length cf] 29)).alloc (.cells #[.string (bs nm), .slice ao' of.length co', .slice af' fs.length cf'] 29)) := b_allocK (b_allocK (Below.refl _ _) (Nat.le_refl _) _) (Nat.le_refl _) _
      have hb2w := on1K hbw hB2 (Nat.le_refl _)
      have cT := texts_same (hpp.1.on hb2w) (hqq.1.on hb2w) s1
      have cF := fun W3 (hB3 : Below ((wr.alloc (.cells #[.string (bs nm), .slice ao of.length co, .slice af fs.length cf] 29)).alloc (.cells #[.string (bs nm), .slice ao' of.length co', .slice af' fs.length cf'] 29)).heap.size ((wr.alloc (.cells #[.string (bs nm), .slice ao of.length co, .slice af fs.length cf] 29)).alloc (.cells #[.string (bs nm), .slice ao' of.length co', .slice af' fs.length cf'] 29)) W3) => fields_same (hpp.2.on (on1K hb2w hB3 (Nat.le_refl _))) (hqq.2.on (on1K hb2w hB3 (Nat.le_refl _))) s2
      have HC : Hid (∀ W3, Below ((wr.alloc (.cells #[.string (bs nm), .slice ao of.length co, .slice af fs.length cf] 29)).alloc (.cells #[.string (bs nm), .slice ao' of.length co', .slice af' fs.length cf'] 29)).heap.size ((wr.alloc (.cells #[.string (bs nm), .slice ao of.length co, .slice af fs.length cf] 29)).alloc (.cells #[.string (bs nm), .slice ao' of.length co', .slice af' fs.length cf'] 29)) W3 → (W3.cell? ⟨wr.heap.size, 0, none⟩ = some (.string (bs nm)) ∧ W3.cell? ⟨wr.heap.size, 2, none⟩ = some (.slice af fs.length cf) ∧ W3.cell? ⟨wr.heap.size + 1, 0, none⟩ = some (.string (bs nm)) ∧ W3.cell? ⟨wr.heap.size + 1, 2, none⟩ = some (.slice af' fs.length cf')) ∧ Below W0.heap.size W0 W3) := fun W3 hB3 => by
        have m0 : W3.heap[wr.heap.size]? = some (.cells #[.string (bs nm), .slice ao of.length co, .slice af fs.length cf] 29 (0, 0)) := (hB3.block _ (by simp; omega)).trans ((Below.heap_alloc _ _ _ (by simp)).trans (heap_alloc_new wr _))
        have m1 : W3.heap[wr.heap.size + 1]? = some (.cells #[.string (bs nm), .slice ao' of.length co', .slice af' fs.length cf'] 29 (0, 0)) := by
          have := heap_alloc_new (wr.alloc (.cells #[.string (bs nm), .slice ao of.length co, .slice af fs.length cf] 29)) (.cells #[.string (bs nm), .slice ao' of.length co', .slice af' fs.length cf'] 29)
          rw [World.size_alloc] at this
          exact (hB3.block _ (by simp)).trans this
        refine ⟨⟨?_, ?_, ?_, ?_⟩, on1K (on1K HBr.out hB2 (Nat.le_refl _)) hB3 (Nat.le_refl _)⟩ <;> simp [World.cell?, m0, m1]
      have hkL : (k : Int) < (L.length : Int) := by omega
      clear m0 m1 m2 r0 r1 r2 hb1 hb2 l1 l2 hp hq hbw hpp hqq hB2 hb2w hBr hold
      go_wp2_with (first | (go_at_call 11; refine cT.mono ?_; rintro e W3 ⟨rfl, hB3⟩; obtain ⟨⟨c0, c2, d0, d2⟩, _⟩ := HC.out W3 hB3; have cF3 := cF W3 hB3) | (go_at_call 23; refine cF3.mono ?_; rintro e W4 ⟨rfl, hB4⟩; obtain ⟨⟨g0, g2, h0, h2⟩, hW4⟩ := HC.out W4 (on1K hB3 hB4 (Nat.le_refl _)); have HW4 := Lib.hid hW4; clear hW4))
      go_roundw
      case rel => exact ⟨k + 1, by omega, by go_num, HW4.out⟩
      case measure => simp [intOf]; omega
    · obtain rfl : k = L.length := by omega
      clear hlt
      obtain ⟨W5, hW5⟩ : ∃ W5, W5 = wr := ⟨wr, rfl⟩
      subst hW5
      go_wp2
      go_loopw [10] (fun i wr => ∃ k : Nat, k ≤ B.length ∧ i = .int .i64 k ∧ Below W0.heap.size W0 wr) (fun i _ => B.length - (intOf i).toNat)
      case atStart => exact ⟨0, Nat.zero_le _, rfl, HBr.out⟩
      case round =>
        obtain ⟨k, hk, rfl, hBs⟩ := hrel
        have HBs := Lib.hid hBs
        clear x0 x1 x2 x3
        obtain ⟨x0, x1, x2, x3⟩ := HX.out wr hBs
        by_cases hlt : k < B.length
        · obtain ⟨p, hp⟩ : ∃ p, B[k]? = some p := ⟨B[k], by simp [hlt]⟩
          obtain ⟨b1, o1, ea, hb1, l1⟩ := HG.out.2.2.2.2.2.1 k p hp
          obtain ⟨b2, o2, eb, hb2, l2⟩ := HG.out.2.2.2.2.2.2 k p hp
          subst ea eb
          obtain ⟨m0, m1, m2, m3, m4⟩ := l1 k p hp
          obtain ⟨r0, r1, r2, r3, r4⟩ := l2 k p hp
          have hbw := on1K HG.out.1 hBs (Nat.le_refl _)
          have y0 := (hbw.cell (p := ⟨b1, o1 + k * 5, none⟩) hb1).trans m0
          have y1 := (hbw.cell (p := ⟨b1, o1 + k * 5 + 1, none⟩) hb1).trans m1
          have y2 := (hbw.cell (p := ⟨b1, o1 + k * 5 + 2, none⟩) hb1).trans m2
          have y3 := (hbw.cell (p := ⟨b1, o1 + k * 5 + 3, none⟩) hb1).trans m3
          have y4 := (hbw.cell (p := ⟨b1, o1 + k * 5 + 4, none⟩) hb1).trans m4
          have z0 := (hbw.cell (p := ⟨b2, o2 + k * 5, none⟩) hb2).trans r0
          have z1 := (hbw.cell (p := ⟨b2, o2 + k * 5 + 1, none⟩) hb2).trans r1
          have z2 := (hbw.cell (p := ⟨b2, o2 + k * 5 + 2, none⟩) hb2).trans r2
          have z3 := (hbw.cell (p := ⟨b2, o2 + k * 5 + 3, none⟩) hb2).trans r3
          have z4 := (hbw.cell (p := ⟨b2, o2 + k * 5 + 4, none⟩) hb2).trans r4
          have hkL : (k : Int) < (B.length : Int) := by omega
          clear m0 m1 m2 m3 m4 r0 r1 r2 r3 r4 hb1 hb2 l1 l2 hp hbw hBs
          go_wp2_with fail
          go_quiet (fail)
          go_wp2
          go_roundw
          case rel => exact ⟨k + 1, by omega, by go_num, b_drewK HBs.out _⟩
          case measure => simp [intOf]; omega
        · obtain rfl : k = B.length := by omega
          go_wp2
          go_ret
          exact ⟨rfl, on1K HG.out.1 hBs (Nat.le_refl _)⟩
end Go.Proofs.YtkmkhadacppdnaaGreatDoor

/-
  What errors.As, plain.Told and kinsame.Error give of package api's errors.
-/
namespace Go.Proofs.YtkmkhadacppdnaaGreatDoor
open Go.RowKit Go.Extern.Stop Go.Stop Go.Extern
set_option linter.unusedVariables false
set_option linter.unusedSimpArgs false

/-- The variable errors.errorType is as it was laid. -/
abbrev Hnd (w : World) : Prop := w.cell? ⟨0, 0, none⟩ = some (.iface 109 (.agg #[.pointer (some ⟨2, 43, none⟩)]))

theorem asValue56 (t : Addr) (w : World) : (ReflectliteValue.unpack (.iface 77 (.pointer (some t)))).run Tryz.prog w = .ok (.agg #[.pointer (some ⟨2, 77, none⟩), .pointer (some ⟨w.heap.size, 0, none⟩), .int .u64 150]) (w.alloc (.cells #[.pointer (some t)] 77)) := by kernel_rfl
theorem asValue44 (x : Int) (w : World) : (ReflectliteValue.unpack (.iface 65 (.int .i64 x))).run Tryz.prog w = .ok (.agg #[.pointer (some ⟨2, 65, none⟩), .pointer (some ⟨w.heap.size, 0, none⟩), .int .u64 130]) (w.alloc (.cells #[.int .i64 x] 65)) := by kernel_rfl
theorem asType56 (a : Addr) (w : World) : (ReflectliteValue.methodAny (ReflectliteValue.valueError "reflectlite.Value.Type" 0) (fun t _ _ _ => ReflectliteType.toType t) #[(.agg #[.pointer (some ⟨2, 77, none⟩), .pointer (some a), .int .u64 150])]).run Tryz.prog w = .ok (.iface 109 (.agg #[.pointer (some ⟨2, 77, none⟩)])) w := by kernel_rfl
theorem asKind (h : Value) (w : World) : (Go.method 284 109 (.agg #[h]) "Kind").run Tryz.prog w = .ok (117, h) w := by kernel_rfl
theorem asElem (h : Value) (w : World) : (Go.method 284 109 (.agg #[h]) "Elem").run Tryz.prog w = .ok (127, .agg #[h]) w := by kernel_rfl
theorem asImpl (h : Value) (w : World) : (Go.method 284 109 (.agg #[h]) "Implements").run Tryz.prog w = .ok (128, .agg #[h]) w := by kernel_rfl
theorem asAssign (h : Value) (w : World) : (Go.method 284 109 (.agg #[h]) "AssignableTo").run Tryz.prog w = .ok (125, .agg #[h]) w := by kernel_rfl
theorem asKind56 (w : World) : ((ReflectliteType.abiMethod fun t => (fun a : Nat => Value.int IntKind.u8 (a : Int)) <$> Rtype.kind t) #[.pointer (some ⟨2, 77, none⟩)]).run Tryz.prog w = .ok (.int .u8 22) w := by kernel_rfl
theorem asKind44 (w : World) : ((ReflectliteType.abiMethod fun t => (fun a : Nat => Value.int IntKind.u8 (a : Int)) <$> Rtype.kind t) #[.pointer (some ⟨2, 65, none⟩)]).run Tryz.prog w = .ok (.int .u8 2) w := by kernel_rfl
theorem asElem56 (w : World) : (ReflectliteType.method ReflectliteType.elem #[(.agg #[.pointer (some ⟨2, 77, none⟩)])]).run Tryz.prog w = .ok (.iface 109 (.agg #[.pointer (some ⟨2, 65, none⟩)])) w := by kernel_rfl
theorem asImpl44 (w : World) : (ReflectliteType.relation "Implements" ReflectliteType.implements_ #[(.agg #[.pointer (some ⟨2, 65, none⟩)]), .iface 109 (.agg #[.pointer (some ⟨2, 43, none⟩)])]).run Tryz.prog w = .ok (.bool true) w := by kernel_rfl
theorem asTypeOf44 (v : Value) (w : World) : (ReflectliteType.typeOf #[.iface 65 v]).run Tryz.prog w = .ok (.iface 109 (.agg #[.pointer (some ⟨2, 65, none⟩)])) w := by kernel_rfl
theorem asAssign44 (w : World) : (ReflectliteType.relation "AssignableTo" ReflectliteType.assignableTo #[(.agg #[.pointer (some ⟨2, 65, none⟩)]), .iface 109 (.agg #[.pointer (some ⟨2, 65, none⟩)])]).run Tryz.prog w = .ok (.bool true) w := by kernel_rfl
theorem asParts56 (a : Addr) (w : World) : (ReflectliteValue.parts (.agg #[.pointer (some ⟨2, 77, none⟩), .pointer (some a), .int .u64 150])).run Tryz.prog w = .ok (some (77, a, 150)) w := by kernel_rfl
theorem asParts44 (a : Addr) (w : World) : (ReflectliteValue.parts (.agg #[.pointer (some ⟨2, 65, none⟩), .pointer (some a), .int .u64 130])).run Tryz.prog w = .ok (some (65, a, 130)) w := by kernel_rfl
theorem asParts44a (a : Addr) (w : World) : (ReflectliteValue.parts (.agg #[.pointer (some ⟨2, 65, none⟩), .pointer (some a), .int .u64 386])).run Tryz.prog w = .ok (some (65, a, 386)) w := by kernel_rfl
theorem asElemOf (w : World) : (Rtype.elem? 77).run Tryz.prog w = .ok (some 65) w := by kernel_rfl
theorem asMk (p : Addr) (w : World) : (ReflectliteValue.mk 65 p ReflectliteValue.flagAddr).run Tryz.prog w = .ok (.agg #[.pointer (some ⟨2, 65, none⟩), .pointer (some p), .int .u64 386]) w := by kernel_rfl
theorem asDirect (w : World) : (Rtype.directlyAssignable 65 65).run Tryz.prog w = .ok true w := by kernel_rfl

theorem asIsNil (a p : Addr) (W : World) (ha : W.cell? a = some (.pointer (some p))) :
    (ReflectliteValue.method (ReflectliteValue.valueError "reflectlite.Value.IsNil" 0) ReflectliteValue.isNil #[(.agg #[.pointer (some ⟨2, 77, none⟩), .pointer (some a), .int .u64 150])]).run Tryz.prog W = .ok (.bool false) W := by
  rw [show ReflectliteValue.method _ _ #[(.agg #[.pointer (some ⟨2, 77, none⟩), .pointer (some a), .int .u64 150])] = (ReflectliteValue.parts (.agg #[.pointer (some ⟨2, 77, none⟩), .pointer (some a), .int .u64 150]) >>= fun _ => _) from rfl]
  simp only [Sem.run_bind, asParts56, Result.andThen]
  simp [ReflectliteValue.isNil, loadVar, isAgg, underlying, Tryz.underlying77, ha, Result.andThen]
theorem asElemV (a p : Addr) (W : World) (ha : W.cell? a = some (.pointer (some p))) :
    (ReflectliteValue.method (ReflectliteValue.valueError "reflectlite.Value.Elem" 0) ReflectliteValue.elem #[(.agg #[.pointer (some ⟨2, 77, none⟩), .pointer (some a), .int .u64 150])]).run Tryz.prog W = .ok (.agg #[.pointer (some ⟨2, 65, none⟩), .pointer (some p), .int .u64 386]) W := by
  rw [show ReflectliteValue.method _ _ #[(.agg #[.pointer (some ⟨2, 77, none⟩), .pointer (some a), .int .u64 150])] = (ReflectliteValue.parts (.agg #[.pointer (some ⟨2, 77, none⟩), .pointer (some a), .int .u64 150]) >>= fun _ => _) from rfl]
  simp only [Sem.run_bind, asParts56, Result.andThen]
  simp [ReflectliteValue.elem, loadVar, isAgg, underlying, Tryz.underlying77, ha, Result.andThen, asElemOf, asMk]
theorem asSet (ta b : Addr) (x : Int) (old : Value) (W : World) (hb : W.cell? b = some (.int .i64 x)) (ht : W.cell? ta = some old) (hf : W.frozen? ta = false) :
    (ReflectliteValue.set #[(.agg #[.pointer (some ⟨2, 65, none⟩), .pointer (some ta), .int .u64 386]), (.agg #[.pointer (some ⟨2, 65, none⟩), .pointer (some b), .int .u64 130])]).run Tryz.prog W = .ok (.tuple #[]) (W.setCell ta (.int .i64 x)) := by
  rw [show ReflectliteValue.set #[(.agg #[.pointer (some ⟨2, 65, none⟩), .pointer (some ta), .int .u64 386]), (.agg #[.pointer (some ⟨2, 65, none⟩), .pointer (some b), .int .u64 130])] = (ReflectliteValue.parts (.agg #[.pointer (some ⟨2, 65, none⟩), .pointer (some ta), .int .u64 386]) >>= fun _ => ReflectliteValue.parts (.agg #[.pointer (some ⟨2, 65, none⟩), .pointer (some b), .int .u64 130]) >>= fun _ => _) from rfl]
  simp only [Sem.run_bind, asParts44a, asParts44, Result.andThen]
  simp [asParts44a, asParts44, ReflectliteValue.flagAddr, loadVar, isAgg, underlying, Tryz.underlying65, hb, Result.andThen, asDirect, storeVar, Value.cells, storeCells, Addr.add]
  rw [run_store Tryz.prog W ta _ _ (by rfl)]
  simp [ht, hf]

set_option maxHeartbeats 4000000 in
theorem as_hit (x : Int) (t : Addr) (old : Value) (w : World) (hg : Hnd w) (ht0 : w.cell? t = some old) (hf0 : w.frozen? t = false) :
    Calls Tryz.prog 30 #[.iface 65 (.int .i64 x), .iface 77 (.pointer (some t))] w fun ev w' => ev = .returned (.bool true) ∧ w' = ((((w.alloc (.cells #[.pointer (some t)] 77)).alloc (.cells #[.pointer (some ⟨2, 77, none⟩), .pointer (some ⟨w.heap.size, 0, none⟩), .int .u64 150] 88)).alloc (.cells #[.pointer (some ⟨2, 77, none⟩), .pointer (some ⟨w.heap.size, 0, none⟩), .int .u64 150] 88)).alloc (.cells #[.int .i64 x] 65)).setCell t (.int .i64 x) := by
  have h6 := @run_callFunc_extern Tryz.prog 39 _ (fun args => ReflectliteValue.unpack (args.getD 0 (.tuple #[]))) Tryz.func39 (by kernel_rfl) (by kernel_rfl) (by kernel_rfl) (by kernel_rfl)
  have h7 := @run_callFunc_extern Tryz.prog 40 _ (ReflectliteValue.methodAny (ReflectliteValue.valueError "reflectlite.Value.Type" 0) (fun t _ _ _ => ReflectliteType.toType t)) Tryz.func40 (by kernel_rfl) (by kernel_rfl) (by kernel_rfl) (by kernel_rfl)
  have h8 := @run_callFunc_extern Tryz.prog 41 _ (ReflectliteValue.method (ReflectliteValue.valueError "reflectlite.Value.IsNil" 0) ReflectliteValue.isNil) Tryz.func41 (by kernel_rfl) (by kernel_rfl) (by kernel_rfl) (by kernel_rfl)
  have h27 := @run_callFunc_extern Tryz.prog 117 _ (ReflectliteType.abiMethod fun t => do pure (.int .u8 (← Rtype.kind t))) Tryz.func117 (by kernel_rfl) (by kernel_rfl) (by kernel_rfl) (by kernel_rfl)
  have h37 := @run_callFunc_extern Tryz.prog 127 _ (ReflectliteType.method ReflectliteType.elem) Tryz.func127 (by kernel_rfl) (by kernel_rfl) (by kernel_rfl) (by kernel_rfl)
  have h38 := @run_callFunc_extern Tryz.prog 128 _ (ReflectliteType.relation "Implements" ReflectliteType.implements_) Tryz.func128 (by kernel_rfl) (by kernel_rfl) (by kernel_rfl) (by kernel_rfl)
  have h10 := @run_callFunc_extern Tryz.prog 60 _ ReflectliteType.typeOf Tryz.func60 (by kernel_rfl) (by kernel_rfl) (by kernel_rfl) (by kernel_rfl)
  have h35 := @run_callFunc_extern Tryz.prog 125 _ (ReflectliteType.relation "AssignableTo" ReflectliteType.assignableTo) Tryz.func125 (by kernel_rfl) (by kernel_rfl) (by kernel_rfl) (by kernel_rfl)
  have h11 := @run_callFunc_extern Tryz.prog 61 _ (ReflectliteValue.method (ReflectliteValue.valueError "reflectlite.Value.Elem" 0) ReflectliteValue.elem) Tryz.func61 (by kernel_rfl) (by kernel_rfl) (by kernel_rfl) (by kernel_rfl)
  have h12 := @run_callFunc_extern Tryz.prog 62 _ ReflectliteValue.set Tryz.func62 (by kernel_rfl) (by kernel_rfl) (by kernel_rfl) (by kernel_rfl)
  have tO := asTypeOf44
  have mA := asAssign
  have a25 := asAssign44
  have v25 := asValue44
  have f6 := asValue56
  have f7 := asType56
  have mK := asKind
  have mE := asElem
  have mI := asImpl
  have k27 := asKind56
  have k25 := asKind44
  have e27 := asElem56
  have i25 := asImpl44
  have n8 := asIsNil ⟨w.heap.size, 0, none⟩ t ((w.alloc (.cells #[.pointer (some t)] 77)).alloc (.cells #[.pointer (some ⟨2, 77, none⟩), .pointer (some ⟨w.heap.size, 0, none⟩), .int .u64 150] 88)) (by simp)
  have hlt : 0 < w.heap.size := by
    rcases Nat.eq_zero_or_pos w.heap.size with h0 | h
    · have hg' : w.cell? ⟨0, 0, none⟩ = _ := hg
      simp [World.cell?, h0] at hg'
    · exact h
  have hg2 : ((w.alloc (.cells #[.pointer (some t)] 77)).alloc (.cells #[.pointer (some ⟨2, 77, none⟩), .pointer (some ⟨w.heap.size, 0, none⟩), .int .u64 150] 88)).cell? ⟨0, 0, none⟩ = some (.iface 109 (.agg #[.pointer (some ⟨2, 43, none⟩)])) := by
    rw [World.cell?_alloc_lt _ _ ⟨0, 0, none⟩ (by simp), World.cell?_alloc_lt _ _ ⟨0, 0, none⟩ hlt]; exact hg
  have htl : t.block < w.heap.size := by
    rcases Nat.lt_or_ge t.block w.heap.size with h | h
    · exact h
    · simp [World.cell?, Array.getElem?_eq_none h] at ht0
  have el := asElemV ⟨w.heap.size, 0, none⟩ t (((w.alloc (.cells #[.pointer (some t)] 77)).alloc (.cells #[.pointer (some ⟨2, 77, none⟩), .pointer (some ⟨w.heap.size, 0, none⟩), .int .u64 150] 88)).alloc (.cells #[.pointer (some ⟨2, 77, none⟩), .pointer (some ⟨w.heap.size, 0, none⟩), .int .u64 150] 88)) (by rw [World.cell?_alloc_lt _ _ ⟨w.heap.size, 0, none⟩ (by simp; omega)]; simp)
  have st := asSet t ⟨w.heap.size + 1 + 1 + 1, 0, none⟩ x old ((((w.alloc (.cells #[.pointer (some t)] 77)).alloc (.cells #[.pointer (some ⟨2, 77, none⟩), .pointer (some ⟨w.heap.size, 0, none⟩), .int .u64 150] 88)).alloc (.cells #[.pointer (some ⟨2, 77, none⟩), .pointer (some ⟨w.heap.size, 0, none⟩), .int .u64 150] 88)).alloc (.cells #[.int .i64 x] 65))
    (by rw [World.cell?_alloc_at _ _ _ _ (by simp)]; rfl)
    (by rw [World.cell?_alloc_lt _ _ t (by simp; omega), World.cell?_alloc_lt _ _ t (by simp; omega), World.cell?_alloc_lt _ _ t (by simp; omega), World.cell?_alloc_lt _ _ t htl]; exact ht0)
    (by rw [World.frozen?_alloc_old _ _ t (by simp; omega), World.frozen?_alloc_old _ _ t (by simp; omega), World.frozen?_alloc_old _ _ t (by simp; omega), World.frozen?_alloc_old _ _ t (Nat.ne_of_lt htl)]; exact hf0)
  go_enter Tryz.func30, Tryz.ntmps30
  go_wp2
  refine wp_loop_rounds 1 ?_
  rw [rounds_succ]
  go_wp2
  go_ret
  exact ⟨rfl, rfl⟩
end Go.Proofs.YtkmkhadacppdnaaGreatDoor

/-
  What plain.Told and kinsame.Error give of package api's errors, and the specification's Order of values.
-/
namespace Go.Proofs.YtkmkhadacppdnaaGreatDoor
open Go.RowKit
set_option linter.unusedVariables false
set_option linter.unusedSimpArgs false

theorem told_nil (w : World) : Calls Tryz.prog 22 #[.nilIface] w fun e w' => e = .returned (.int .i64 0) ∧ w' = w := by
  go_enter Tryz.func22, Tryz.ntmps22
  go_wp2
  go_ret
  exact ⟨rfl, rfl⟩
set_option maxHeartbeats 1000000 in
theorem told_err (x : Int) (w : World) (hg : Hnd w) : Calls Tryz.prog 22 #[.iface 65 (.int .i64 x)] w fun e w' => e = .returned (.int .i64 x) ∧ Below w.heap.size w w' := by
  have hlt : 0 < w.heap.size := by
    rcases Nat.eq_zero_or_pos w.heap.size with h0 | h
    · have hg' : w.cell? ⟨0, 0, none⟩ = _ := hg
      simp [World.cell?, h0] at hg'
    · exact h
  have hgA : Hnd (w.alloc (.cells #[.int .i64 0] 65)) := by
    show (w.alloc (.cells #[.int .i64 0] 65)).cell? ⟨0, 0, none⟩ = _
    rw [World.cell?_alloc_lt _ _ ⟨0, 0, none⟩ hlt]; exact hg
  have htA : (w.alloc (.cells #[.int .i64 0] 65)).cell? ⟨w.heap.size, 0, none⟩ = some (.int .i64 0) := by simp
  have hfA : (w.alloc (.cells #[.int .i64 0] 65)).frozen? ⟨w.heap.size, 0, none⟩ = false := by simp
  clear hg hlt
  go_enter Tryz.func22, Tryz.ntmps22
  go_wp2_with (go_at_call 30; refine (as_hit x _ (.int .i64 0) _ hgA htA hfA).mono ?_; rintro e w' ⟨rfl, rfl⟩)
  go_ret
  refine ⟨rfl, ?_⟩
  exact (((((Below.refl _ w).alloc (Nat.le_refl _) _).alloc (by simp) _).alloc (by simp; omega) _).alloc (by simp; omega) _).alloc (by simp; omega) _
theorem told_any (x : Int) (w : World) (hg : Hnd w) : Calls Tryz.prog 22 #[errV x] w fun e w' => e = .returned (.int .i64 x) ∧ Below w.heap.size w w' := by
  by_cases h : x = 0
  · subst h
    refine (told_nil w).mono ?_
    rintro e w' ⟨rfl, rfl⟩
    exact ⟨rfl, Below.refl _ _⟩
  · rw [errV_ne h]; exact told_err x w hg
theorem error_any (x : Int) (w : World) (hg : Hnd w) : Calls Tryz.prog 7 #[errV x, .int .i64 x] w fun e w' => e = .returned (.bool true) ∧ Below w.heap.size w w' := by
  go_enter Tryz.func7, Tryz.ntmps7
  go_wp2_with (go_at_call 22; refine (told_any x _ hg).mono ?_; rintro e w' ⟨rfl, hb⟩)
  go_ret
  exact ⟨ret_bool (by simp), hb⟩

end Go.Proofs.YtkmkhadacppdnaaGreatDoor
