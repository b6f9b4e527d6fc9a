/-
  The walk of kinsame.Schema: two schemas that say the same.
-/
import Derived.Test.YtmffimhioobimaaGreatDoorM09
import Derived.Deep.QuietTactic
import Derived.BigQuiet
import Derived.RangeFuncRecord
import Derived.Test.YtmffimhioobimaaGreatDoorM18
namespace Go.Proofs.YtmffimhioobimaaGreatDoor
open Go.RowKit
set_option linter.unusedVariables false
set_option linter.unusedSimpArgs false

/-- A list of names as a value: how long it is, and where each stands. -/
theorem isS_view {w : World} {v : Value} {l : List Nm} (h : IsS w v l) : ∃ ao c, v = .slice ao l.length c ∧ ∀ j g, l[j]? = some g → ∃ b o, ao = some ⟨b, o, none⟩ ∧ b < w.heap.size ∧ w.cell? ⟨b, o + j, none⟩ = some (.string (bs g)) := by
  rcases h with ⟨ao, c, rfl, rfl, _⟩ | ⟨b, off, cap, rfl, hc, hm, hb, hl⟩
  · exact ⟨ao, c, rfl, fun j g hg => by simp at hg⟩
  · exact ⟨_, _, rfl, fun j g hg => ⟨b, off, rfl, hb, hl j g hg⟩⟩
set_option maxHeartbeats 4000000 in
set_option maxRecDepth 100000 in
theorem texts_same {v u : Value} {l : List Nm} {w : World} (h1 : IsS w v l) (h2 : IsS w u l) (hn : l.length ≤ 1000) :
    Calls Tryz.prog 18 #[v, u] w fun e w' => e = .returned (.bool true) ∧ Below w.heap.size w w' := by
  obtain ⟨a1, c1, rfl, g1⟩ := isS_view h1
  obtain ⟨a2, c2, rfl, g2⟩ := isS_view h2
  have HG : Hid ((∀ j g, l[j]? = some g → ∃ b o, a1 = some ⟨b, o, none⟩ ∧ b < w.heap.size ∧ w.cell? ⟨b, o + j, none⟩ = some (.string (bs g))) ∧ (∀ j g, l[j]? = some g → ∃ b o, a2 = some ⟨b, o, none⟩ ∧ b < w.heap.size ∧ w.cell? ⟨b, o + j, none⟩ = some (.string (bs g)))) := ⟨g1, g2⟩
  clear h1 h2 g1 g2
  go_enter Tryz.func18, Tryz.ntmps18
  go_wp2
  go_loopw [5] (fun i wr => ∃ k : Nat, k ≤ l.length ∧ i = .int .i64 k ∧ Below w.heap.size w wr) (fun i _ => l.length - (intOf i).toNat)
  case atStart => exact ⟨0, Nat.zero_le _, rfl, Below.refl _ _⟩
  case round =>
    obtain ⟨k, hk, rfl, hB⟩ := hrel
    by_cases hlt : k < l.length
    · obtain ⟨p, hp⟩ : ∃ p, l[k]? = some p := ⟨l[k], by simp [hlt]⟩
      obtain ⟨b1, o1, rfl, hb1, m1⟩ := HG.out.1 k p hp
      obtain ⟨b2, o2, rfl, hb2, m2⟩ := HG.out.2 k p hp
      have x1 := (hB.cell (p := ⟨b1, o1 + k, none⟩) hb1).trans m1
      have x2 := (hB.cell (p := ⟨b2, o2 + k, none⟩) hb2).trans m2
      have HB : Hid (Below w.heap.size w wr) := hB
      have hki : (k : Int) < (l.length : Int) := by omega
      clear m1 m2 hB hp hb1 hb2
      go_wp2_with fail
      go_quiet (fail)
      go_wp2
      go_roundw
      case rel => exact ⟨k + 1, by omega, by go_num, b_drewN HB.out _⟩
      case measure => simp [intOf]; omega
    · go_wp2
      go_ret
      exact ⟨rfl, hB⟩
set_option maxHeartbeats 4000000 in
set_option maxRecDepth 100000 in
theorem fields_same {v u : Value} {l : List Fd} {w : World} (h1 : IsF w v l) (h2 : IsF w u l) (hn : l.length ≤ 1000) :
    Calls Tryz.prog 37 #[v, u] w fun e w' => e = .returned (.bool true) ∧ Below w.heap.size w w' := by
  obtain ⟨a1, c1, rfl, g1⟩ := isF_view h1
  obtain ⟨a2, c2, rfl, g2⟩ := isF_view h2
  have HG1 : Hid (∀ j g, l[j]? = some g → ∃ b o, a1 = some ⟨b, o, none⟩ ∧ b < w.heap.size ∧ w.cell? ⟨b, o + j * 4, none⟩ = some (.string (bs g.nm)) ∧ w.cell? ⟨b, o + j * 4 + 1, none⟩ = some (.int .i64 g.t) ∧ w.cell? ⟨b, o + j * 4 + 2, none⟩ = some (.bool g.must) ∧ w.cell? ⟨b, o + j * 4 + 3, none⟩ = some (.bool g.key)) := g1
  have HG2 : Hid (∀ j g, l[j]? = some g → ∃ b o, a2 = some ⟨b, o, none⟩ ∧ b < w.heap.size ∧ w.cell? ⟨b, o + j * 4, none⟩ = some (.string (bs g.nm)) ∧ w.cell? ⟨b, o + j * 4 + 1, none⟩ = some (.int .i64 g.t) ∧ w.cell? ⟨b, o + j * 4 + 2, none⟩ = some (.bool g.must) ∧ w.cell? ⟨b, o + j * 4 + 3, none⟩ = some (.bool g.key)) := g2
  clear h1 h2 g1 g2
  go_enter Tryz.func37, Tryz.ntmps37
  go_wp2
  go_loopw [5] (fun i wr => ∃ k : Nat, k ≤ l.length ∧ i = .int .i64 k ∧ Below w.heap.size w wr) (fun i _ => l.length - (intOf i).toNat)
  case atStart => exact ⟨0, Nat.zero_le _, rfl, Below.refl _ _⟩
  case round =>
    obtain ⟨k, hk, rfl, hB⟩ := hrel
    by_cases hlt : k < l.length
    · obtain ⟨p, hp⟩ : ∃ p, l[k]? = some p := ⟨l[k], by simp [hlt]⟩
      obtain ⟨b1, o1, rfl, hb1, m0, m1, m2, m3⟩ := HG1.out k p hp
      obtain ⟨b2, o2, rfl, hb2, n0, n1, n2, n3⟩ := HG2.out k p hp
      have x0 := (hB.cell (p := ⟨b1, o1 + k * 4, none⟩) hb1).trans m0
      have x1 := (hB.cell (p := ⟨b1, o1 + k * 4 + 1, none⟩) hb1).trans m1
      have x2 := (hB.cell (p := ⟨b1, o1 + k * 4 + 2, none⟩) hb1).trans m2
      have x3 := (hB.cell (p := ⟨b1, o1 + k * 4 + 3, none⟩) hb1).trans m3
      have y0 := (hB.cell (p := ⟨b2, o2 + k * 4, none⟩) hb2).trans n0
      have y1 := (hB.cell (p := ⟨b2, o2 + k * 4 + 1, none⟩) hb2).trans n1
      have y2 := (hB.cell (p := ⟨b2, o2 + k * 4 + 2, none⟩) hb2).trans n2
      have y3 := (hB.cell (p := ⟨b2, o2 + k * 4 + 3, none⟩) hb2).trans n3
      have HB : Hid (Below w.heap.size w wr) := hB
      have hki : (k : Int) < (l.length : Int) := by omega
      clear m0 m1 m2 m3 n0 n1 n2 n3 hB hp hb1 hb2
      go_wp2_with fail
      go_quiet (fail)
      go_wp2
      go_roundw
      case rel => exact ⟨k + 1, by omega, by go_num, b_drewN HB.out _⟩
      case measure => simp [intOf]; omega
    · go_wp2
      go_ret
      exact ⟨rfl, hB⟩

theorem kq_at {L L' : List Kd} (h : L.map (fun k => (k.nm, k.of, k.fs)) = L'.map (fun k => (k.nm, k.of, k.fs))) {i : Nat} {k k' : Kd} (h1 : L[i]? = some k) (h2 : L'[i]? = some k') : k.nm = k'.nm ∧ k.of = k'.of ∧ k.fs = k'.fs := by
  have e := congrArg (fun l => l[i]?) h
  simp only [List.getElem?_map, h1, h2, Option.map_some, Option.some.injEq, Prod.mk.injEq] at e
  exact e
theorem isS_sl' {w : World} {v : Value} {l : List Nm} (h : IsS w v l) : ∃ a c, v = .slice a l.length c := by
  obtain ⟨a, c, e, _⟩ := isS_view h
  exact ⟨a, c, e⟩
theorem isF_sl' {w : World} {v : Value} {l : List Fd} (h : IsF w v l) : ∃ a c, v = .slice a l.length c := by
  obtain ⟨a, c, e, _⟩ := isF_view h
  exact ⟨a, c, e⟩
set_option maxHeartbeats 8000000 in
set_option maxRecDepth 100000 in
theorem schema_same {vk vb uk ub : Value} {L L' : List Kd} {B : List Bd} {w : World} (hK : IsK w vk L) (hP : Parts w L) (hB : IsB w vb B) (hK' : IsK w uk L') (hP' : Parts w L') (hB' : IsB w ub B) (he : L.map (fun k => (k.nm, k.of, k.fs)) = L'.map (fun k => (k.nm, k.of, k.fs))) (lb : B.length ≤ 1000) (ll : L.length ≤ 1000) (sm : ∀ k ∈ L, k.of.length ≤ 1000 ∧ k.fs.length ≤ 1000) :
    Calls Tryz.prog 12 #[.agg #[vk, vb], .agg #[uk, ub]] w fun e w' => e = .returned (.bool true) ∧ Below w.heap.size w w' := by
  have hll : L.length = L'.length := by have := congrArg List.length he; simpa using this
  obtain ⟨W0, hW0⟩ : ∃ W0, W0 = (w.alloc (.cells #[vk, vb] 25)).alloc (.cells #[uk, ub] 25) := ⟨_, rfl⟩
  have hB0 : Below w.heap.size w W0 := by rw [hW0]; exact b_alloc (b_alloc (Below.refl _ _) (Nat.le_refl _) _) (Nat.le_refl _) _
  have n0 : W0.heap[w.heap.size]? = some (.cells #[vk, vb] 25 (0, 0)) := by rw [hW0]; exact (Below.heap_alloc _ _ _ (by simp)).trans (World.alloc_heap_new w _)
  have n1 : W0.heap[w.heap.size + 1]? = some (.cells #[uk, ub] 25 (0, 0)) := by
    have := World.alloc_heap_new (w.alloc (.cells #[vk, vb] 25)) (.cells #[uk, ub] 25)
    rw [World.size_alloc] at this; rw [hW0]; exact this
  have HX : Hid (∀ W, Below W0.heap.size W0 W → W.cell? ⟨w.heap.size, 0, none⟩ = some vk ∧ W.cell? ⟨w.heap.size, 1, none⟩ = some vb ∧ W.cell? ⟨w.heap.size + 1, 0, none⟩ = some uk ∧ W.cell? ⟨w.heap.size + 1, 1, none⟩ = some ub) := fun W hb => by
    have m0 := (hb.block _ (Array.getElem?_eq_some_iff.1 n0).1).trans n0
    have m1 := (hb.block _ (Array.getElem?_eq_some_iff.1 n1).1).trans n1
    refine ⟨?_, ?_, ?_, ?_⟩ <;> simp [World.cell?, m0, m1]
  obtain ⟨ak, ck, evk, _, hvk⟩ := isK_view hK
  obtain ⟨al, cl, euk, _, huk⟩ := isK_view hK'
  obtain ⟨ab, cb, evb, _, _, hvb⟩ := isB_view hB
  obtain ⟨ac, cc, eub, _, _, hub⟩ := isB_view hB'
  rw [← hll] at euk
  subst evk euk evb eub
  have HG : Hid (Below w.heap.size w W0 ∧ Parts w L ∧ Parts w L' ∧ (∀ (j : Nat) g, L[j]? = some g → ∃ b o, ak = some ⟨b, o, none⟩ ∧ b < w.heap.size ∧ LiesK w b o L) ∧ (∀ (j : Nat) g, L'[j]? = some g → ∃ b o, al = some ⟨b, o, none⟩ ∧ b < w.heap.size ∧ LiesK w b o L') ∧ (∀ (j : Nat) g, B[j]? = some g → ∃ b o, ab = some ⟨b, o, none⟩ ∧ b < w.heap.size ∧ LiesB w b o B) ∧ (∀ (j : Nat) g, B[j]? = some g → ∃ b o, ac = some ⟨b, o, none⟩ ∧ b < w.heap.size ∧ LiesB w b o B)) := ⟨hB0, hP, hP', hvk, huk, hvb, hub⟩
  have HLL := Lib.hid hll
  clear hll
  have HE := Lib.hid he
  have HSm := Lib.hid sm
  obtain ⟨x0, x1, x2, x3⟩ := HX.out W0 (Below.refl _ _)
  clear hK hP hB hK' hP' hB' he sm hvk huk hvb hub hB0 n0 n1
  go_enter Tryz.func12, Tryz.ntmps12
  go_upto_region 1 with fail
  rw [← hW0]
  clear hW0
  go_wp2
  go_loopw [5] (fun i wr => ∃ k : Nat, k ≤ L.length ∧ i = .int .i64 k ∧ Below W0.heap.size W0 wr) (fun i _ => L.length - (intOf i).toNat)
  case atStart => exact ⟨0, Nat.zero_le _, rfl, Below.refl _ _⟩
  case round =>
    obtain ⟨k, hk, rfl, hBr⟩ := hrel
    have HBr := Lib.hid hBr
    clear x0 x1 x2 x3
    obtain ⟨x0, x1, x2, x3⟩ := HX.out wr hBr
    by_cases hlt : k < L.length
    · obtain ⟨p, hp⟩ : ∃ p, L[k]? = some p := ⟨L[k], by simp [hlt]⟩
      obtain ⟨q, hq⟩ : ∃ q, L'[k]? = some q := ⟨L'[k]'(by have := HLL.out; omega), by rw [List.getElem?_eq_getElem]⟩
      obtain ⟨b1, o1, ea, hb1, l1⟩ := HG.out.2.2.2.1 k p hp
      obtain ⟨b2, o2, eb, hb2, l2⟩ := HG.out.2.2.2.2.1 k q hq
      subst ea eb
      obtain ⟨m0, m1, m2⟩ := l1 k p hp
      obtain ⟨r0, r1, r2⟩ := l2 k q hq
      have hbw := on1 HG.out.1 hBr (Nat.le_refl _)
      obtain ⟨e1, e2, e3⟩ := kq_at HE.out hp hq
      have hpp := HG.out.2.1 p (List.mem_of_getElem? hp)
      have hqq := HG.out.2.2.1 q (List.mem_of_getElem? hq)
      obtain ⟨s1, s2⟩ := HSm.out p (List.mem_of_getElem? hp)
      obtain ⟨nm, of, fs, vo, vf⟩ := p
      obtain ⟨nm', of', fs', uo, uf⟩ := q
      simp only at e1 e2 e3 hpp hqq s1 s2 m0 m1 m2 r0 r1 r2
      subst e1 e2 e3
      have y0 := (hbw.cell (p := ⟨b1, o1 + k * 3, none⟩) hb1).trans m0
      have y1 := (hbw.cell (p := ⟨b1, o1 + k * 3 + 1, none⟩) hb1).trans m1
      have y2 := (hbw.cell (p := ⟨b1, o1 + k * 3 + 2, none⟩) hb1).trans m2
      have z0 := (hbw.cell (p := ⟨b2, o2 + k * 3, none⟩) hb2).trans r0
      have z1 := (hbw.cell (p := ⟨b2, o2 + k * 3 + 1, none⟩) hb2).trans r1
      have z2 := (hbw.cell (p := ⟨b2, o2 + k * 3 + 2, none⟩) hb2).trans r2
      obtain ⟨ao, co, eo⟩ := isS_sl' hpp.1
      obtain ⟨af, cf, ef⟩ := isF_sl' hpp.2
      obtain ⟨ao', co', eo'⟩ := isS_sl' hqq.1
      obtain ⟨af', cf', ef'⟩ := isF_sl' hqq.2
      subst eo ef eo' ef'
      have hn1 : ¬ b1 = wr.heap.size := by have := hbw.size; omega
      have hn2 : ¬ b2 = wr.heap.size := by have := hbw.size; omega
      have hold : ∀ {a : Addr} {v : Value}, wr.cell? a = some v → ∀ o, (wr.alloc o).cell? a = some v := fun {a v} h o => ((b_alloc (Below.refl _ wr) (Nat.le_refl _) o).cell (World.block_lt_of_cell? wr _ h)).trans h
      have z0' := hold z0
      have z1' := hold z1
      have z2' := hold z2
      have x2' := hold x2
      have hB2 : Below wr.heap.size wr ((wr.alloc (.cells #[.string (bs nm), .slice ao of.length co, .slice af fs.length cf] 55)).alloc (.cells #[.string (bs nm), .slice ao' of.length co', .slice af' fs.length cf'] 55)) := b_alloc (b_alloc (Below.refl _ _) (Nat.le_refl _) _) (Nat.le_refl _) _
      have hb2w := on1 hbw hB2 (Nat.le_refl _)
      have cT := texts_same (hpp.1.on hb2w) (hqq.1.on hb2w) s1
      have cF := fun W3 (hB3 : Below ((wr.alloc (.cells #[.string (bs nm), .slice ao of.length co, .slice af fs.length cf] 55)).alloc (.cells #[.string (bs nm), .slice ao' of.length co', .slice af' fs.length cf'] 55)).heap.size ((wr.alloc (.cells #[.string (bs nm), .slice ao of.length co, .slice af fs.length cf] 55)).alloc (.cells #[.string (bs nm), .slice ao' of.length co', .slice af' fs.length cf'] 55)) W3) => fields_same (hpp.2.on (on1 hb2w hB3 (Nat.le_refl _))) (hqq.2.on (on1 hb2w hB3 (Nat.le_refl _))) s2
      have HC : Hid (∀ W3, Below ((wr.alloc (.cells #[.string (bs nm), .slice ao of.length co, .slice af fs.length cf] 55)).alloc (.cells #[.string (bs nm), .slice ao' of.length co', .slice af' fs.length cf'] 55)).heap.size ((wr.alloc (.cells #[.string (bs nm), .slice ao of.length co, .slice af fs.length cf] 55)).alloc (.cells #[.string (bs nm), .slice ao' of.length co', .slice af' fs.length cf'] 55)) W3 → (W3.cell? ⟨wr.heap.size, 0, none⟩ = some (.string (bs nm)) ∧ W3.cell? ⟨wr.heap.size, 2, none⟩ = some (.slice af fs.length cf) ∧ W3.cell? ⟨wr.heap.size + 1, 0, none⟩ = some (.string (bs nm)) ∧ W3.cell? ⟨wr.heap.size + 1, 2, none⟩ = some (.slice af' fs.length cf')) ∧ Below W0.heap.size W0 W3) := fun W3 hB3 => by
        have m0 : W3.heap[wr.heap.size]? = some (.cells #[.string (bs nm), .slice ao of.length co, .slice af fs.length cf] 55 (0, 0)) := (hB3.block _ (by simp; omega)).trans ((Below.heap_alloc _ _ _ (by simp)).trans (World.alloc_heap_new wr _))
        have m1 : W3.heap[wr.heap.size + 1]? = some (.cells #[.string (bs nm), .slice ao' of.length co', .slice af' fs.length cf'] 55 (0, 0)) := by
          have := World.alloc_heap_new (wr.alloc (.cells #[.string (bs nm), .slice ao of.length co, .slice af fs.length cf] 55)) (.cells #[.string (bs nm), .slice ao' of.length co', .slice af' fs.length cf'] 55)
          rw [World.size_alloc] at this
          exact (hB3.block _ (by simp)).trans this
        refine ⟨⟨?_, ?_, ?_, ?_⟩, on1 (on1 HBr.out hB2 (Nat.le_refl _)) hB3 (Nat.le_refl _)⟩ <;> simp [World.cell?, m0, m1]
      have hkL : (k : Int) < (L.length : Int) := by omega
      clear m0 m1 m2 r0 r1 r2 hb1 hb2 l1 l2 hp hq hbw hpp hqq hB2 hb2w hBr hold
      go_wp2_with (first | (go_at_call 18; refine cT.mono ?_; rintro e W3 ⟨rfl, hB3⟩; obtain ⟨⟨c0, c2, d0, d2⟩, _⟩ := HC.out W3 hB3; have cF3 := cF W3 hB3) | (go_at_call 37; refine cF3.mono ?_; rintro e W4 ⟨rfl, hB4⟩; obtain ⟨⟨g0, g2, h0, h2⟩, hW4⟩ := HC.out W4 (on1 hB3 hB4 (Nat.le_refl _)); have HW4 := Lib.hid hW4; clear hW4))
      go_roundw
      case rel => exact ⟨k + 1, by omega, by go_num, HW4.out⟩
      case measure => simp [intOf]; omega
    · obtain rfl : k = L.length := by omega
      clear hlt
      obtain ⟨W5, hW5⟩ : ∃ W5, W5 = wr := ⟨wr, rfl⟩
      subst hW5
      go_wp2
      go_loopw [10] (fun i wr => ∃ k : Nat, k ≤ B.length ∧ i = .int .i64 k ∧ Below W0.heap.size W0 wr) (fun i _ => B.length - (intOf i).toNat)
      case atStart => exact ⟨0, Nat.zero_le _, rfl, HBr.out⟩
      case round =>
        obtain ⟨k, hk, rfl, hBs⟩ := hrel
        have HBs := Lib.hid hBs
        clear x0 x1 x2 x3
        obtain ⟨x0, x1, x2, x3⟩ := HX.out wr hBs
        by_cases hlt : k < B.length
        · obtain ⟨p, hp⟩ : ∃ p, B[k]? = some p := ⟨B[k], by simp [hlt]⟩
          obtain ⟨b1, o1, ea, hb1, l1⟩ := HG.out.2.2.2.2.2.1 k p hp
          obtain ⟨b2, o2, eb, hb2, l2⟩ := HG.out.2.2.2.2.2.2 k p hp
          subst ea eb
          obtain ⟨m0, m1, m2, m3, m4⟩ := l1 k p hp
          obtain ⟨r0, r1, r2, r3, r4⟩ := l2 k p hp
          have hbw := on1 HG.out.1 hBs (Nat.le_refl _)
          have y0 := (hbw.cell (p := ⟨b1, o1 + k * 5, none⟩) hb1).trans m0
          have y1 := (hbw.cell (p := ⟨b1, o1 + k * 5 + 1, none⟩) hb1).trans m1
          have y2 := (hbw.cell (p := ⟨b1, o1 + k * 5 + 2, none⟩) hb1).trans m2
          have y3 := (hbw.cell (p := ⟨b1, o1 + k * 5 + 3, none⟩) hb1).trans m3
          have y4 := (hbw.cell (p := ⟨b1, o1 + k * 5 + 4, none⟩) hb1).trans m4
          have z0 := (hbw.cell (p := ⟨b2, o2 + k * 5, none⟩) hb2).trans r0
          have z1 := (hbw.cell (p := ⟨b2, o2 + k * 5 + 1, none⟩) hb2).trans r1
          have z2 := (hbw.cell (p := ⟨b2, o2 + k * 5 + 2, none⟩) hb2).trans r2
          have z3 := (hbw.cell (p := ⟨b2, o2 + k * 5 + 3, none⟩) hb2).trans r3
          have z4 := (hbw.cell (p := ⟨b2, o2 + k * 5 + 4, none⟩) hb2).trans r4
          have hkL : (k : Int) < (B.length : Int) := by omega
          clear m0 m1 m2 m3 m4 r0 r1 r2 r3 r4 hb1 hb2 l1 l2 hp hbw hBs
          go_wp2_with fail
          go_quiet (fail)
          go_wp2
          go_roundw
          case rel => exact ⟨k + 1, by omega, by go_num, b_drewN HBs.out _⟩
          case measure => simp [intOf]; omega
        · obtain rfl : k = B.length := by omega
          go_wp2
          go_ret
          exact ⟨rfl, on1 HG.out.1 hBs (Nat.le_refl _)⟩
end Go.Proofs.YtmffimhioobimaaGreatDoor

/-
  What the walk of the law SchemaBack asks of Parse: at a text that reads, at one that does not, at the fact's text, at a right schema's own text.
-/
namespace Go.Proofs.YtmffimhioobimaaGreatDoor
open Go.RowKit
set_option linter.unusedVariables false
set_option linter.unusedSimpArgs false

theorem parse_calls (x : Nm) (hx : x.length ≤ 90000000) (w : World) (hE : EV w) : Calls Tryz.prog 11 #[.string (bs x)] w (PaPost x w) := callsIn_wide.1 (parse_any 9 (by omega) x hx w hE)
/-- The text reads as a right schema. -/
def PaOk (x : Nm) : Prop := ∃ L B, lnFold (linesL x) = some (L.map kq, B) ∧ (sErr L B).2 = 0
/-- What Parse gives of such a text. -/
def YesPost (x : Nm) (w : World) (e : Ending) (w' : World) : Prop := ∃ ak ck ab cb L B, e = .returned (.tuple #[.agg #[.slice ak L.length ck, .slice ab B.length cb], .int .i64 0, .nilIface]) ∧ (lnFold (linesL x) = some (L.map kq, B) ∧ (sErr L B).2 = 0 ∧ IsK w' (.slice ak L.length ck) L ∧ Parts w' L ∧ IsB w' (.slice ab B.length cb) B) ∧ Below w.heap.size w w'
theorem fold_same {x : Nm} {L L' : List Kd} {B B' : List Bd} (h : lnFold (linesL x) = some (L.map kq, B)) (h' : lnFold (linesL x) = some (L'.map kq, B')) : L.map kq = L'.map kq ∧ B = B' := by
  rw [h] at h'
  injection h' with h'
  injection h' with e1 e2
  exact ⟨e1, e2⟩
theorem parse_yes {x : Nm} {w : World} (hx : x.length ≤ 90000000) (hE : EV w) (h : PaOk x) : Calls Tryz.prog 11 #[.string (bs x)] w (YesPost x w) := by
  refine (parse_calls x hx w hE).mono ?_
  rintro e w' ⟨ak, nk, ck, ab, nb, cb, at', z, rfl, hB, h0, h1⟩
  by_cases hz : z = 0
  · obtain ⟨rfl, L, B, q1, q2, q3, q4, q5⟩ := h0 hz
    subst hz
    obtain ⟨a', c', e1, _⟩ := q3.sln
    obtain ⟨a'', c'', e2⟩ : ∃ ab' cb', Value.slice ab nb cb = .slice ab' B.length cb' := by
      rcases q5 with ⟨e, rfl⟩ | ⟨b, off, cap, e, _⟩
      · exact ⟨none, 0, e⟩
      · exact ⟨_, _, e⟩
    injection e1 with _ e1 _
    injection e2 with _ e2 _
    subst e1 e2
    exact ⟨ak, ck, ab, cb, L, B, rfl, ⟨q1, q2, q3, q4, q5⟩, hB⟩
  · exfalso
    obtain ⟨L, B, g1, g2⟩ := h
    rcases h1 hz with ⟨q1, _⟩ | ⟨_, L', B', q1, q2⟩
    · rw [g1] at q1; cases q1
    · obtain ⟨e1, rfl⟩ := fold_same g1 q1
      rw [sErr_kq e1, q2] at g2
      exact hz g2
theorem parse_no {x : Nm} {w : World} (hx : x.length ≤ 90000000) (hE : EV w) (h : ¬ PaOk x) : Calls Tryz.prog 11 #[.string (bs x)] w fun e w' => ∃ ak nk ck ab nb cb, ∃ at' z : Int, e = .returned (.tuple #[.agg #[.slice ak nk ck, .slice ab nb cb], .int .i64 at', .iface 60 (.int .i64 z)]) ∧ Below w.heap.size w w' := by
  refine (parse_calls x hx w hE).mono ?_
  rintro e w' ⟨ak, nk, ck, ab, nb, cb, at', z, rfl, hB, h0, h1⟩
  by_cases hz : z = 0
  · obtain ⟨_, L, B, q1, q2, _⟩ := h0 hz
    exact absurd ⟨L, B, q1, q2⟩ h
  · exact ⟨ak, nk, ck, ab, nb, cb, at', z, by rw [errV_ne hz], hB⟩
/-- The text of the fact. -/
def fact0 : Nm := [107, 105, 110, 100, 32, 97, 32, 120, 58, 105, 110, 116, 42, 10, 107, 105, 110, 100, 32, 98, 32, 111, 102, 32, 97, 32, 121, 58, 116, 101, 120, 116, 33, 10, 98, 111, 110, 100, 32, 112, 32, 97, 32, 98, 32, 48, 32, 97, 110, 121, 10]
def factL : List Kd := [⟨[97], [], [⟨[120], 1, true, true⟩], .nilIface, .nilIface⟩, ⟨[98], [[97]], [⟨[121], 3, true, false⟩], .nilIface, .nilIface⟩]
def factB : List Bd := [⟨[112], [97], [98], 0, -1⟩]
theorem fact_err : (sErr factL factB).2 = 0 := by rfl
theorem fact_text : sText factL factB = fact0 := by decide +kernel
theorem fact_fold : lnFold (linesL fact0) = some (factL.map kq, factB) := by rw [← fact_text]; exact print_parse fact_err
theorem nErr_short {l : Nm} (h : nErr l = 0) : l.length ≤ 8 := by
  unfold nErr at h
  by_cases h1 : l = []
  · rw [if_pos h1] at h; cases h
  · rw [if_neg h1] at h
    by_cases h2 : 8 < l.length
    · rw [if_pos h2] at h; cases h
    · omega
theorem parse_fact {w : World} (hE : EV w) : Calls Tryz.prog 11 #[.string (bs fact0)] w fun e w' => ∃ k0 ck b0 cb f0 cf, ∃ of0 ff0 bf0 : Nat, e = .returned (.tuple #[.agg #[.slice (some ⟨k0, of0, none⟩) 2 ck, .slice (some ⟨b0, bf0, none⟩) 1 cb], .int .i64 0, .nilIface]) ∧ (w'.cell? ⟨k0, of0 + 2, none⟩ = some (.slice (some ⟨f0, ff0, none⟩) 1 cf) ∧ w'.cell? ⟨f0, ff0 + 3, none⟩ = some (.bool true) ∧ w'.cell? ⟨b0, bf0 + 4, none⟩ = some (.int .i64 (-1))) ∧ Below w.heap.size w w' := by
  refine (parse_yes (by decide) hE ⟨factL, factB, fact_fold, fact_err⟩).mono ?_
  rintro e w' ⟨ak, ck, ab, cb, L, B, rfl, ⟨q1, q2, q3, q4, q5⟩, hB⟩
  obtain ⟨e1, rfl⟩ := fold_same fact_fold q1
  have hl : L.length = 2 := by have := congrArg List.length e1; simpa [factL] using this.symm
  obtain ⟨k, k2, rfl⟩ : ∃ k k2, L = [k, k2] := by
    match L, hl with
    | [k, k2], _ => exact ⟨k, k2, rfl⟩
  simp only [factL, List.map_cons, List.map_nil, kq, List.cons.injEq, Prod.mk.injEq, and_true] at e1
  obtain ⟨⟨n1, n2, n3⟩, _⟩ := e1
  rcases q3 with ⟨_, h0⟩ | ⟨b, off, cap, e3, _, _, _, hl3⟩
  · cases h0
  injection e3 with e3 _ e3'
  subst e3 e3'
  rcases q5 with ⟨_, h0⟩ | ⟨b', off', cap', e5, _, _, _, hl5⟩
  · cases h0
  injection e5 with e5 _ e5'
  subst e5 e5'
  obtain ⟨_, _, m2⟩ := hl3 0 k rfl
  obtain ⟨_, _, _, _, m5⟩ := hl5 0 ⟨[112], [97], [98], 0, -1⟩ rfl
  have hf := (q4 k (by simp)).2
  rw [← n3] at hf
  rcases hf with ⟨_, _, _, h0, _⟩ | ⟨bf, of, cf, e6, _, _, _, hl6⟩
  · cases h0
  obtain ⟨_, _, _, m6⟩ := hl6 0 ⟨[120], 1, true, true⟩ rfl
  rw [e6] at m2
  exact ⟨b, _, b', _, bf, cf, off, of, off', rfl, ⟨by simpa using m2, by simpa using m6, by simpa using m5⟩, hB⟩
theorem text_len {L : List Kd} {B : List Bd} (h : (sErr L B).2 = 0) : (sText L B).length ≤ 90000000 := by
  obtain ⟨hks, hGB, hB12⟩ := sErr_good.1 h
  obtain ⟨hG, hL12⟩ := ksErr_good.1 hks
  have fl : ∀ {α : Type} (f : α → Nm) (m : Nat) (l : List α), (∀ x ∈ l, (f x).length ≤ m) → (l.flatMap f).length ≤ l.length * m := by
    intro α f m l
    induction l with
    | nil => intro _; simp
    | cons a r ih =>
      intro h
      have h1 := h a (by simp)
      have h2 := ih (fun x hx => h x (List.mem_cons_of_mem _ hx))
      rw [List.flatMap_cons, List.length_append, List.length_cons, Nat.add_mul]
      omega
  have h1 : (kText L).length ≤ L.length * 1000 := fl _ 1000 L fun k hk => by
    have := kLine_len k (good_ok hG hk) (by
      have := (nErr_short (good_name hG hk))
      exact this)
    unfold lineL
    rw [List.length_append]
    simp only [List.length_cons, List.length_nil]
    omega
  have h2 : (bText B).length ≤ B.length * 1000 := fl _ 1000 B fun x hx => by
    have h3 := bWords_len x (good_bond hG hGB hx)
    have h4 := join_len (bWords x) [32] 21 h3
    unfold lineL
    rw [List.length_append]
    simp only [List.length_cons, List.length_nil, bWords] at h4 ⊢
    omega
  unfold sText
  rw [List.length_append]
  have := Nat.mul_le_mul_right 1000 hL12
  have := Nat.mul_le_mul_right 1000 hB12
  omega
/-- A right schema's own text. -/
theorem parse_good {L : List Kd} {B : List Bd} {w : World} (h : (sErr L B).2 = 0) (hE : EV w) : Calls Tryz.prog 11 #[.string (bs (sText L B))] w fun e w' => ∃ ak ck ab cb L', e = .returned (.tuple #[.agg #[.slice ak L'.length ck, .slice ab B.length cb], .int .i64 0, .nilIface]) ∧ (L'.map kq = L.map kq ∧ IsK w' (.slice ak L'.length ck) L' ∧ Parts w' L' ∧ IsB w' (.slice ab B.length cb) B) ∧ Below w.heap.size w w' := by
  refine (parse_yes (text_len h) hE ⟨L, B, print_parse h, h⟩).mono ?_
  rintro e w' ⟨ak, ck, ab, cb, L', B', rfl, ⟨q1, q2, q3, q4, q5⟩, hB⟩
  obtain ⟨e1, rfl⟩ := fold_same (print_parse h) q1
  exact ⟨ak, ck, ab, cb, L', rfl, ⟨e1.symm, q3, q4, q5⟩, hB⟩
end Go.Proofs.YtmffimhioobimaaGreatDoor

/-
  The walk of the law SchemaBack.
-/
namespace Go.Proofs.YtmffimhioobimaaGreatDoor
open Go.RowKit
set_option linter.unusedVariables false
set_option linter.unusedSimpArgs false

set_option maxHeartbeats 8000000 in
set_option maxRecDepth 100000 in
theorem sback_ok {vk vb : Value} {L : List Kd} {B : List Bd} {t : Nm} {w : World} (hK : IsK w vk L) (hP : Parts w L) (hz : SzK L) (hb : IsB w vb B) (hzb : SzB B) (ht : t.length ≤ 90000000) (hE : EV w) (hse : (sErr L B).2 = 0) :
    Calls Tryz.prog 4 #[.agg #[vk, vb], .string (bs t)] w fun e w' => e = .returned (.bool true) ∧ Below w.heap.size w w' := by
  obtain ⟨W0, hW0⟩ : ∃ W0, W0 = w.alloc (.cells #[vk, vb] 25) := ⟨_, rfl⟩
  have hB0 : Below w.heap.size w W0 := by rw [hW0]; exact b_alloc (Below.refl _ _) (Nat.le_refl _) _
  have n0 : W0.heap[w.heap.size]? = some (.cells #[vk, vb] 25 (0, 0)) := by rw [hW0]; exact World.alloc_heap_new w _
  have HX : Hid (∀ W, Below W0.heap.size W0 W → W.cell? ⟨w.heap.size, 0, none⟩ = some vk ∧ W.cell? ⟨w.heap.size, 1, none⟩ = some vb) := fun W hb => ⟨cell_at ((hb.block _ (Array.getElem?_eq_some_iff.1 n0).1).trans n0) rfl, cell_at ((hb.block _ (Array.getElem?_eq_some_iff.1 n0).1).trans n0) rfl⟩
  have cF := parse_fact (hE.on hB0)
  rw [show bs fact0 = ⟨#[107, 105, 110, 100, 32, 97, 32, 120, 58, 105, 110, 116, 42, 10, 107, 105, 110, 100, 32, 98, 32, 111, 102, 32, 97, 32, 121, 58, 116, 101, 120, 116, 33, 10, 98, 111, 110, 100, 32, 112, 32, 97, 32, 98, 32, 48, 32, 97, 110, 121, 10]⟩ from rfl] at cF
  have HG : Hid (IsK w vk L ∧ Parts w L ∧ IsB w vb B ∧ EV w ∧ Below w.heap.size w W0) := ⟨hK, hP, hb, hE, hB0⟩
  obtain ⟨ak, ck, evk, _⟩ := hK.sln
  obtain ⟨ab, cb, evb⟩ : ∃ ab cb, vb = .slice ab B.length cb := by
    rcases hb with ⟨rfl, rfl⟩ | ⟨b, off, cap, rfl, _⟩
    · exact ⟨none, 0, rfl⟩
    · exact ⟨_, _, rfl⟩
  subst evk evb
  clear hK hP hb hE hB0 n0
  go_enter Tryz.func4, Tryz.ntmps4
  go_upto_region 1 with fail
  rw [← hW0]
  clear hW0
  go_wp2_with (first | (go_at_call 11; refine cF.mono ?_; rintro e W1 ⟨k0, ck0, b0, cb0, f0, cf0, of0, ff0, bf0, rfl, ⟨m1, m2, m3⟩, hB1⟩; refine Hid.out ?_))
  refine Lib.hid ?_
  have hold : ∀ {a : Addr} {v : Value}, W1.cell? a = some v → ∀ o, (W1.alloc o).cell? a = some v := fun {a v} h o => ((b_alloc (Below.refl _ W1) (Nat.le_refl _) o).cell (World.block_lt_of_cell? W1 _ h)).trans h
  have m1' := hold m1
  have m2' := hold m2
  have m3' := hold m3
  have hB1a : Below W0.heap.size W0 (W1.alloc (.cells #[.slice (some ⟨k0, of0, none⟩) 2 ck0, .slice (some ⟨b0, bf0, none⟩) 1 cb0] 25)) := on1 hB1 (b_alloc (Below.refl _ _) (Nat.le_refl _) _) (Nat.le_refl _)
  have hbw1 := on1 HG.out.2.2.2.2 hB1a (Nat.le_refl _)
  obtain ⟨x0, x1⟩ := HX.out _ hB1a
  have HB1 := Lib.hid hB1a
  have cPr := sprint_ok (HG.out.1.on hbw1) (HG.out.2.1.on hbw1) hz (HG.out.2.2.1.on hbw1) hzb (HG.out.2.2.2.1.on hbw1).tw hse
  clear hold hB1a hbw1 hB1 cF
  go_wp2_with (first | (go_at_call 9; refine cPr.mono ?_; rintro e W2 ⟨rfl, hB2⟩; refine Hid.out ?_))
  refine Lib.hid ?_
  have hBt2 := on1 HB1.out hB2 (Nat.le_refl _)
  have hbw2 := on1 HG.out.2.2.2.2 hBt2 (Nat.le_refl _)
  have cG := parse_good hse (HG.out.2.2.2.1.on hbw2)
  have HB2 := Lib.hid hBt2
  clear cPr hBt2 hbw2 hB2 m1 m2 m3 m1' m2' m3' HB1 x0 x1
  go_wp2_with (first | (go_at_call 11; refine cG.mono ?_; rintro e W3 ⟨a3, c3, b3, d3, L', rfl, ⟨q1, q2, q3, q4⟩, hB3⟩; refine Hid.out ?_))
  refine Lib.hid ?_
  have hx3 : Below W3.heap.size W3 (W3.alloc (.cells #[.slice a3 L'.length c3, .slice b3 B.length d3] 25)) := b_alloc (Below.refl _ _) (Nat.le_refl _) _
  have hB3a := on1 (on1 HB2.out hB3 (Nat.le_refl _)) hx3 (Nat.le_refl _)
  have hbw3 := on1 HG.out.2.2.2.2 hB3a (Nat.le_refl _)
  obtain ⟨hks, hGB, hB12⟩ := sErr_good.1 hse
  obtain ⟨hGd, hL12⟩ := ksErr_good.1 hks
  have hL'12 : L'.length ≤ 12 := by have := congrArg List.length q1; simp only [List.length_map] at this; omega
  have cS := schema_same (q2.on hx3) (q3.on hx3) (q4.on hx3) (HG.out.1.on hbw3) (HG.out.2.1.on hbw3) (HG.out.2.2.1.on hbw3) q1 (by omega) (by omega) (fun k hk => by
    obtain ⟨i, hi⟩ := List.getElem?_of_mem hk
    obtain ⟨k2, hk2⟩ : ∃ k2, L[i]? = some k2 := by
      have := congrArg (fun l => l[i]?) q1
      simp only [List.getElem?_map, hi, Option.map_some] at this
      cases hh : L[i]? with
      | none => rw [hh] at this; cases this
      | some k2 => exact ⟨k2, rfl⟩
    obtain ⟨_, e2, e3⟩ := kq_at q1 hi hk2
    have := good_ok hGd (List.mem_of_getElem? hk2)
    rw [e2, e3]
    exact ⟨Nat.le_trans this.of4 (by omega), Nat.le_trans this.fs8 (by omega)⟩)
  obtain ⟨x0, x1⟩ := HX.out _ hB3a
  have hz3 : ¬ w.heap.size = W3.heap.size := by have := hB3a.size; have h2 := World.block_lt_of_cell? W0 _ (HX.out W0 (Below.refl _ _)).1; have h3 := (on1 HB2.out hB3 (Nat.le_refl _)).size; simp only at h2; omega
  have HB3 := Lib.hid hB3a
  clear q1 q2 q3 q4 hB3 hx3 hB3a hbw3 hks hGB hB12 hGd hL12 hL'12 cG HB2
  go_wp2_with (first | (go_at_call 12; refine cS.mono ?_; rintro e Wt ⟨rfl, hB4⟩; refine Hid.out ?_))
  refine Lib.hid ?_
  have hBt := on1 HB3.out hB4 (Nat.le_refl _)
  clear cS hB4 HB3 x0 x1 hse
  have hbt := on1 HG.out.2.2.2.2 hBt (Nat.le_refl _)
  have hEt := HG.out.2.2.2.1.on hbt
  have HBt := Lib.hid hbt
  by_cases hok : PaOk t
  · have cY := parse_yes ht hEt hok
    clear hok hBt hbt HX
    go_wp2_with (first | (go_at_call 11; refine cY.mono ?_; rintro e W6 ⟨a6, c6, b6, d6, L6, B6, rfl, ⟨q1, q2, q3, q4, q5⟩, hB6⟩; refine Hid.out ?_))
    refine Lib.hid ?_
    have hx6 : Below W6.heap.size W6 (W6.alloc (.cells #[.slice a6 L6.length c6, .slice b6 B6.length d6] 25)) := b_alloc (Below.refl _ _) (Nat.le_refl _) _
    have hB6a := on1 hB6 hx6 (Nat.le_refl _)
    obtain ⟨z1, z2⟩ := lines_sz (by unfold maxLen; omega) q1
    obtain ⟨hks, _, hB12⟩ := sErr_good.1 q2
    obtain ⟨_, hL12⟩ := ksErr_good.1 hks
    have cP2 := sprint_ok (q3.on hx6) (q4.on hx6) z1 (q5.on hx6) z2 (hEt.on hB6a).tw q2
    rw [parse_print q1 hL12 hB12] at cP2
    have HB6 := Lib.hid (on1 HBt.out hB6a (Nat.le_refl _))
    clear q1 q2 q3 q4 q5 hB6 hx6 hB6a z1 z2 hks hB12 hL12 cY hEt
    go_wp2_with (first | (go_at_call 9; refine cP2.mono ?_; rintro e W7 ⟨rfl, hB7⟩))
    go_ret
    exact ⟨rfl, on1 HB6.out hB7 (Nat.le_refl _)⟩
  · have cN := parse_no ht hEt hok
    clear hok hBt hbt HX hEt
    go_wp2_with (first | (go_at_call 11; refine cN.mono ?_; rintro e W6 ⟨a6, n6, c6, b6, nb6, d6, at6, z6, rfl, hB6⟩))
    go_ret
    exact ⟨rfl, b_alloc (on1 HBt.out hB6 (Nat.le_refl _)) (Nat.le_refl _) _⟩
end Go.Proofs.YtmffimhioobimaaGreatDoor

/-
  The walk of the law SchemaBack.
-/
namespace Go.Proofs.YtmffimhioobimaaGreatDoor
open Go.RowKit
set_option linter.unusedVariables false
set_option linter.unusedSimpArgs false

set_option maxHeartbeats 8000000 in
set_option maxRecDepth 100000 in
theorem sback_bad {vk vb : Value} {L : List Kd} {B : List Bd} {t : Nm} {w : World} (hK : IsK w vk L) (hP : Parts w L) (hz : SzK L) (hb : IsB w vb B) (hzb : SzB B) (ht : t.length ≤ 90000000) (hE : EV w) (hse : ¬ (sErr L B).2 = 0) :
    Calls Tryz.prog 4 #[.agg #[vk, vb], .string (bs t)] w fun e w' => e = .returned (.bool true) ∧ Below w.heap.size w w' := by
  obtain ⟨W0, hW0⟩ : ∃ W0, W0 = w.alloc (.cells #[vk, vb] 25) := ⟨_, rfl⟩
  have hB0 : Below w.heap.size w W0 := by rw [hW0]; exact b_alloc (Below.refl _ _) (Nat.le_refl _) _
  have n0 : W0.heap[w.heap.size]? = some (.cells #[vk, vb] 25 (0, 0)) := by rw [hW0]; exact World.alloc_heap_new w _
  have HX : Hid (∀ W, Below W0.heap.size W0 W → W.cell? ⟨w.heap.size, 0, none⟩ = some vk ∧ W.cell? ⟨w.heap.size, 1, none⟩ = some vb) := fun W hb => ⟨cell_at ((hb.block _ (Array.getElem?_eq_some_iff.1 n0).1).trans n0) rfl, cell_at ((hb.block _ (Array.getElem?_eq_some_iff.1 n0).1).trans n0) rfl⟩
  have cF := parse_fact (hE.on hB0)
  rw [show bs fact0 = ⟨#[107, 105, 110, 100, 32, 97, 32, 120, 58, 105, 110, 116, 42, 10, 107, 105, 110, 100, 32, 98, 32, 111, 102, 32, 97, 32, 121, 58, 116, 101, 120, 116, 33, 10, 98, 111, 110, 100, 32, 112, 32, 97, 32, 98, 32, 48, 32, 97, 110, 121, 10]⟩ from rfl] at cF
  have HG : Hid (IsK w vk L ∧ Parts w L ∧ IsB w vb B ∧ EV w ∧ Below w.heap.size w W0) := ⟨hK, hP, hb, hE, hB0⟩
  obtain ⟨ak, ck, evk, _⟩ := hK.sln
  obtain ⟨ab, cb, evb⟩ : ∃ ab cb, vb = .slice ab B.length cb := by
    rcases hb with ⟨rfl, rfl⟩ | ⟨b, off, cap, rfl, _⟩
    · exact ⟨none, 0, rfl⟩
    · exact ⟨_, _, rfl⟩
  subst evk evb
  clear hK hP hb hE hB0 n0
  go_enter Tryz.func4, Tryz.ntmps4
  go_upto_region 1 with fail
  rw [← hW0]
  clear hW0
  go_wp2_with (first | (go_at_call 11; refine cF.mono ?_; rintro e W1 ⟨k0, ck0, b0, cb0, f0, cf0, of0, ff0, bf0, rfl, ⟨m1, m2, m3⟩, hB1⟩; refine Hid.out ?_))
  refine Lib.hid ?_
  have hold : ∀ {a : Addr} {v : Value}, W1.cell? a = some v → ∀ o, (W1.alloc o).cell? a = some v := fun {a v} h o => ((b_alloc (Below.refl _ W1) (Nat.le_refl _) o).cell (World.block_lt_of_cell? W1 _ h)).trans h
  have m1' := hold m1
  have m2' := hold m2
  have m3' := hold m3
  have hB1a : Below W0.heap.size W0 (W1.alloc (.cells #[.slice (some ⟨k0, of0, none⟩) 2 ck0, .slice (some ⟨b0, bf0, none⟩) 1 cb0] 25)) := on1 hB1 (b_alloc (Below.refl _ _) (Nat.le_refl _) _) (Nat.le_refl _)
  have hbw1 := on1 HG.out.2.2.2.2 hB1a (Nat.le_refl _)
  obtain ⟨x0, x1⟩ := HX.out _ hB1a
  have HB1 := Lib.hid hB1a
  have cPr := sprint_bad (HG.out.1.on hbw1) (HG.out.2.1.on hbw1) hz (HG.out.2.2.1.on hbw1) hzb hse
  clear hold hB1a hbw1 hB1 cF
  generalize (sErr L B).2 = z at *
  clear hse
  go_wp2_with (first | (go_at_call 9; refine cPr.mono ?_; rintro e Wt ⟨rfl, hB2⟩; refine Hid.out ?_))
  refine Lib.hid ?_
  have hBt := on1 HB1.out hB2 (Nat.le_refl _)
  clear cPr hB2 m1 m2 m3 m1' m2' m3' HB1 x0 x1
  have hbt := on1 HG.out.2.2.2.2 hBt (Nat.le_refl _)
  have hEt := HG.out.2.2.2.1.on hbt
  have HBt := Lib.hid hbt
  by_cases hok : PaOk t
  · have cY := parse_yes ht hEt hok
    clear hok hBt hbt HX
    go_wp2_with (first | (go_at_call 11; refine cY.mono ?_; rintro e W6 ⟨a6, c6, b6, d6, L6, B6, rfl, ⟨q1, q2, q3, q4, q5⟩, hB6⟩; refine Hid.out ?_))
    refine Lib.hid ?_
    have hx6 : Below W6.heap.size W6 (W6.alloc (.cells #[.slice a6 L6.length c6, .slice b6 B6.length d6] 25)) := b_alloc (Below.refl _ _) (Nat.le_refl _) _
    have hB6a := on1 hB6 hx6 (Nat.le_refl _)
    obtain ⟨z1, z2⟩ := lines_sz (by unfold maxLen; omega) q1
    obtain ⟨hks, _, hB12⟩ := sErr_good.1 q2
    obtain ⟨_, hL12⟩ := ksErr_good.1 hks
    have cP2 := sprint_ok (q3.on hx6) (q4.on hx6) z1 (q5.on hx6) z2 (hEt.on hB6a).tw q2
    rw [parse_print q1 hL12 hB12] at cP2
    have HB6 := Lib.hid (on1 HBt.out hB6a (Nat.le_refl _))
    clear q1 q2 q3 q4 q5 hB6 hx6 hB6a z1 z2 hks hB12 hL12 cY hEt
    go_wp2_with (first | (go_at_call 9; refine cP2.mono ?_; rintro e W7 ⟨rfl, hB7⟩))
    go_ret
    exact ⟨rfl, on1 HB6.out hB7 (Nat.le_refl _)⟩
  · have cN := parse_no ht hEt hok
    clear hok hBt hbt HX hEt
    go_wp2_with (first | (go_at_call 11; refine cN.mono ?_; rintro e W6 ⟨a6, n6, c6, b6, nb6, d6, at6, z6, rfl, hB6⟩))
    go_ret
    exact ⟨rfl, b_alloc (on1 HBt.out hB6 (Nat.le_refl _)) (Nat.le_refl _) _⟩
end Go.Proofs.YtmffimhioobimaaGreatDoor
