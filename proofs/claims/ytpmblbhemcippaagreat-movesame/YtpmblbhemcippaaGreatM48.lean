/-
  The walk of kinsame.Schema: two schemas that say the same.
-/
import Derived.Test.YtpmblbhemcippaaGreatM12
import Derived.Deep.QuietTactic
import Derived.BigQuiet
import Derived.Test.YtpmblbhemcippaaGreatRows
import Derived.Test.YtpmblbhemcippaaGreatM41
import Derived.ProofKit
import Derived.LaidMore
import Derived.OpenShut
import Derived.ShutString
import Derived.ChangeMaps5
import Derived.Stop.Joined
import Derived.Stop.LaidErr
import Derived.Lib.SmallJoins
import Derived.Carry
import Derived.SizedLaws
import Derived.MakeChecks
import Derived.Deep.Slices
import Derived.Deep.Strs
namespace Go.Proofs.YtpmblbhemcippaaGreat
open Go.RowKit
set_option linter.unusedVariables false
set_option linter.unusedSimpArgs false

theorem isF_view {w : World} {v : Value} {l : List Fd} (h : IsF w v l) : ∃ ao c, v = .slice ao l.length c ∧ ∀ (j : Nat) g, l[j]? = some g → ∃ b o, ao = some ⟨b, o, none⟩ ∧ b < w.heap.size ∧ w.cell? ⟨b, o + j * 4, none⟩ = some (.string (bs g.nm)) ∧ w.cell? ⟨b, o + j * 4 + 1, none⟩ = some (.int .i64 g.t) ∧ w.cell? ⟨b, o + j * 4 + 2, none⟩ = some (.bool g.must) ∧ w.cell? ⟨b, o + j * 4 + 3, none⟩ = some (.bool g.key) := by
  rcases h with ⟨ao, c, rfl, rfl, _⟩ | ⟨b, off, cap, rfl, _, _, hb, hl⟩
  · exact ⟨ao, c, rfl, fun j g hg => by simp at hg⟩
  · exact ⟨_, _, rfl, fun j g hg => ⟨b, off, rfl, hb, hl j g hg⟩⟩
theorem isK_view {w : World} {v : Value} {l : List Kd} (h : IsK w v l) : ∃ ao c, v = .slice ao l.length c ∧ l.length ≤ maxLen ∧ ∀ (j : Nat) g, l[j]? = some g → ∃ b o, ao = some ⟨b, o, none⟩ ∧ b < w.heap.size ∧ LiesK w b o l := by
  rcases h with ⟨rfl, rfl⟩ | ⟨b, off, cap, rfl, h1, h2, hb, hl⟩
  · exact ⟨none, 0, rfl, by unfold maxLen; simp, fun j g hg => by simp at hg⟩
  · exact ⟨_, _, rfl, by omega, fun j g hg => ⟨b, off, rfl, hb, hl⟩⟩
theorem isS_view {w : World} {v : Value} {l : List Nm} (h : IsS w v l) : ∃ ao c, v = .slice ao l.length c ∧ ∀ j g, l[j]? = some g → ∃ b o, ao = some ⟨b, o, none⟩ ∧ b < w.heap.size ∧ w.cell? ⟨b, o + j, none⟩ = some (.string (bs g)) := by
  rcases h with ⟨ao, c, rfl, rfl, _⟩ | ⟨b, off, cap, rfl, hc, hm, hb, hl⟩
  · exact ⟨ao, c, rfl, fun j g hg => by simp at hg⟩
  · exact ⟨_, _, rfl, fun j g hg => ⟨b, off, rfl, hb, hl j g hg⟩⟩
set_option maxHeartbeats 4000000 in
set_option maxRecDepth 100000 in
theorem texts_same {v u : Value} {l : List Nm} {w : World} (h1 : IsS w v l) (h2 : IsS w u l) (hn : l.length ≤ 1000) :
    Calls Tryz.prog 22 #[v, u] w fun e w' => e = .returned (.bool true) ∧ Below w.heap.size w w' := by
  obtain ⟨a1, c1, rfl, g1⟩ := isS_view h1
  obtain ⟨a2, c2, rfl, g2⟩ := isS_view h2
  have HG : Hid ((∀ j g, l[j]? = some g → ∃ b o, a1 = some ⟨b, o, none⟩ ∧ b < w.heap.size ∧ w.cell? ⟨b, o + j, none⟩ = some (.string (bs g))) ∧ (∀ j g, l[j]? = some g → ∃ b o, a2 = some ⟨b, o, none⟩ ∧ b < w.heap.size ∧ w.cell? ⟨b, o + j, none⟩ = some (.string (bs g)))) := ⟨g1, g2⟩
  clear h1 h2 g1 g2
  go_enter Tryz.func22, Tryz.ntmps22
  go_wp2
  go_loopw [5] (fun i wr => ∃ k : Nat, k ≤ l.length ∧ i = .int .i64 k ∧ Below w.heap.size w wr) (fun i _ => l.length - (intOf i).toNat)
  case atStart => exact ⟨0, Nat.zero_le _, rfl, Below.refl _ _⟩
  case round =>
    obtain ⟨k, hk, rfl, hB⟩ := hrel
    by_cases hlt : k < l.length
    · obtain ⟨p, hp⟩ : ∃ p, l[k]? = some p := ⟨l[k], by simp [hlt]⟩
      obtain ⟨b1, o1, rfl, hb1, m1⟩ := HG.out.1 k p hp
      obtain ⟨b2, o2, rfl, hb2, m2⟩ := HG.out.2 k p hp
      have x1 := (hB.cell (p := ⟨b1, o1 + k, none⟩) hb1).trans m1
      have x2 := (hB.cell (p := ⟨b2, o2 + k, none⟩) hb2).trans m2
      have HB : Hid (Below w.heap.size w wr) := hB
      have hki : (k : Int) < (l.length : Int) := by omega
      clear m1 m2 hB hp hb1 hb2
      go_wp2_with fail
      go_quiet (fail)
      go_wp2
      go_roundw
      case rel => exact ⟨k + 1, by omega, by go_num, b_drewK HB.out _⟩
      case measure => simp [intOf]; omega
    · go_wp2
      go_ret
      exact ⟨rfl, hB⟩
set_option maxHeartbeats 4000000 in
set_option maxRecDepth 100000 in
theorem fields_same {v u : Value} {l : List Fd} {w : World} (h1 : IsF w v l) (h2 : IsF w u l) (hn : l.length ≤ 1000) :
    Calls Tryz.prog 23 #[v, u] w fun e w' => e = .returned (.bool true) ∧ Below w.heap.size w w' := by
  obtain ⟨a1, c1, rfl, g1⟩ := isF_view h1
  obtain ⟨a2, c2, rfl, g2⟩ := isF_view h2
  have HG1 : Hid (∀ j g, l[j]? = some g → ∃ b o, a1 = some ⟨b, o, none⟩ ∧ b < w.heap.size ∧ w.cell? ⟨b, o + j * 4, none⟩ = some (.string (bs g.nm)) ∧ w.cell? ⟨b, o + j * 4 + 1, none⟩ = some (.int .i64 g.t) ∧ w.cell? ⟨b, o + j * 4 + 2, none⟩ = some (.bool g.must) ∧ w.cell? ⟨b, o + j * 4 + 3, none⟩ = some (.bool g.key)) := g1
  have HG2 : Hid (∀ j g, l[j]? = some g → ∃ b o, a2 = some ⟨b, o, none⟩ ∧ b < w.heap.size ∧ w.cell? ⟨b, o + j * 4, none⟩ = some (.string (bs g.nm)) ∧ w.cell? ⟨b, o + j * 4 + 1, none⟩ = some (.int .i64 g.t) ∧ w.cell? ⟨b, o + j * 4 + 2, none⟩ = some (.bool g.must) ∧ w.cell? ⟨b, o + j * 4 + 3, none⟩ = some (.bool g.key)) := g2
  clear h1 h2 g1 g2
  go_enter Tryz.func23, Tryz.ntmps23
  go_wp2
  go_loopw [5] (fun i wr => ∃ k : Nat, k ≤ l.length ∧ i = .int .i64 k ∧ Below w.heap.size w wr) (fun i _ => l.length - (intOf i).toNat)
  case atStart => exact ⟨0, Nat.zero_le _, rfl, Below.refl _ _⟩
  case round =>
    obtain ⟨k, hk, rfl, hB⟩ := hrel
    by_cases hlt : k < l.length
    · obtain ⟨p, hp⟩ : ∃ p, l[k]? = some p := ⟨l[k], by simp [hlt]⟩
      obtain ⟨b1, o1, rfl, hb1, m0, m1, m2, m3⟩ := HG1.out k p hp
      obtain ⟨b2, o2, rfl, hb2, n0, n1, n2, n3⟩ := HG2.out k p hp
      have x0 := (hB.cell (p := ⟨b1, o1 + k * 4, none⟩) hb1).trans m0
      have x1 := (hB.cell (p := ⟨b1, o1 + k * 4 + 1, none⟩) hb1).trans m1
      have x2 := (hB.cell (p := ⟨b1, o1 + k * 4 + 2, none⟩) hb1).trans m2
      have x3 := (hB.cell (p := ⟨b1, o1 + k * 4 + 3, none⟩) hb1).trans m3
      have y0 := (hB.cell (p := ⟨b2, o2 + k * 4, none⟩) hb2).trans n0
      have y1 := (hB.cell (p := ⟨b2, o2 + k * 4 + 1, none⟩) hb2).trans n1
      have y2 := (hB.cell (p := ⟨b2, o2 + k * 4 + 2, none⟩) hb2).trans n2
      have y3 := (hB.cell (p := ⟨b2, o2 + k * 4 + 3, none⟩) hb2).trans n3
      have HB : Hid (Below w.heap.size w wr) := hB
      have hki : (k : Int) < (l.length : Int) := by omega
      clear m0 m1 m2 m3 n0 n1 n2 n3 hB hp hb1 hb2
      go_wp2_with fail
      go_quiet (fail)
      go_wp2
      go_roundw
      case rel => exact ⟨k + 1, by omega, by go_num, b_drewK HB.out _⟩
      case measure => simp [intOf]; omega
    · go_wp2
      go_ret
      exact ⟨rfl, hB⟩

theorem kq_at {L L' : List Kd} (h : L.map (fun k => (k.nm, k.of, k.fs)) = L'.map (fun k => (k.nm, k.of, k.fs))) {i : Nat} {k k' : Kd} (h1 : L[i]? = some k) (h2 : L'[i]? = some k') : k.nm = k'.nm ∧ k.of = k'.of ∧ k.fs = k'.fs := by
  have e := congrArg (fun l => l[i]?) h
  simp only [List.getElem?_map, h1, h2, Option.map_some, Option.some.injEq, Prod.mk.injEq] at e
  exact e
theorem isS_sl' {w : World} {v : Value} {l : List Nm} (h : IsS w v l) : ∃ a c, v = .slice a l.length c := by
  obtain ⟨a, c, e, _⟩ := isS_view h
  exact ⟨a, c, e⟩
theorem isF_sl' {w : World} {v : Value} {l : List Fd} (h : IsF w v l) : ∃ a c, v = .slice a l.length c := by
  obtain ⟨a, c, e, _⟩ := isF_view h
  exact ⟨a, c, e⟩
set_option maxHeartbeats 8000000 in
set_option maxRecDepth 100000 in
theorem schema_same {vk vb uk ub : Value} {L L' : List Kd} {B : List Bd} {w : World} (hK : IsK w vk L) (hP : Parts w L) (hB : IsB w vb B) (hK' : IsK w uk L') (hP' : Parts w L') (hB' : IsB w ub B) (he : L.map (fun k => (k.nm, k.of, k.fs)) = L'.map (fun k => (k.nm, k.of, k.fs))) (lb : B.length ≤ 1000) (ll : L.length ≤ 1000) (sm : ∀ k ∈ L, k.of.length ≤ 1000 ∧ k.fs.length ≤ 1000) :
    Calls Tryz.prog 10 #[.agg #[vk, vb], .agg #[uk, ub]] w fun e w' => e = .returned (.bool true) ∧ Below w.heap.size w w' := by
  have hll : L.length = L'.length := by have := congrArg List.length he; simpa using this
  obtain ⟨W0, hW0⟩ : ∃ W0, W0 = (w.alloc (.cells #[vk, vb] 25)).alloc (.cells #[uk, ub] 25) := ⟨_, rfl⟩
  have hB0 : Below w.heap.size w W0 := by rw [hW0]; exact b_allocK (b_allocK (Below.refl _ _) (Nat.le_refl _) _) (Nat.le_refl _) _
  have n0 : W0.heap[w.heap.size]? = some (.cells #[vk, vb] 25 (0, 0)) := by rw [hW0]; exact (Below.heap_alloc _ _ _ (by simp)).trans (heap_alloc_new w _)
  have n1 : W0.heap[w.heap.size + 1]? = some (.cells #[uk, ub] 25 (0, 0)) := by
    have := heap_alloc_new (w.alloc (.cells #[vk, vb] 25)) (.cells #[uk, ub] 25)
    rw [World.size_alloc] at this; rw [hW0]; exact this
  have HX : Hid (∀ W, Below W0.heap.size W0 W → W.cell? ⟨w.heap.size, 0, none⟩ = some vk ∧ W.cell? ⟨w.heap.size, 1, none⟩ = some vb ∧ W.cell? ⟨w.heap.size + 1, 0, none⟩ = some uk ∧ W.cell? ⟨w.heap.size + 1, 1, none⟩ = some ub) := fun W hb => by
    have m0 := (hb.block _ (Array.getElem?_eq_some_iff.1 n0).1).trans n0
    have m1 := (hb.block _ (Array.getElem?_eq_some_iff.1 n1).1).trans n1
    refine ⟨?_, ?_, ?_, ?_⟩ <;> simp [World.cell?, m0, m1]
  obtain ⟨ak, ck, evk, _, hvk⟩ := isK_view hK
  obtain ⟨al, cl, euk, _, huk⟩ := isK_view hK'
  obtain ⟨ab, cb, evb, _, _, hvb⟩ := isB_view hB
  obtain ⟨ac, cc, eub, _, _, hub⟩ := isB_view hB'
  rw [← hll] at euk
  subst evk euk evb eub
  have HG : Hid (Below w.heap.size w W0 ∧ Parts w L ∧ Parts w L' ∧ (∀ (j : Nat) g, L[j]? = some g → ∃ b o, ak = some ⟨b, o, none⟩ ∧ b < w.heap.size ∧ LiesK w b o L) ∧ (∀ (j : Nat) g, L'[j]? = some g → ∃ b o, al = some ⟨b, o, none⟩ ∧ b < w.heap.size ∧ LiesK w b o L') ∧ (∀ (j : Nat) g, B[j]? = some g → ∃ b o, ab = some ⟨b, o, none⟩ ∧ b < w.heap.size ∧ LiesB w b o B) ∧ (∀ (j : Nat) g, B[j]? = some g → ∃ b o, ac = some ⟨b, o, none⟩ ∧ b < w.heap.size ∧ LiesB w b o B)) := ⟨hB0, hP, hP', hvk, huk, hvb, hub⟩
  have HLL := Lib.hid hll
  clear hll
  have HE := Lib.hid he
  have HSm := Lib.hid sm
  obtain ⟨x0, x1, x2, x3⟩ := HX.out W0 (Below.refl _ _)
  clear hK hP hB hK' hP' hB' he sm hvk huk hvb hub hB0 n0 n1
  go_enter Tryz.func10, Tryz.ntmps10
  go_upto_region 1 with fail
  rw [← hW0]
  clear hW0
  go_wp2
  go_loopw [5] (fun i wr => ∃ k : Nat, k ≤ L.length ∧ i = .int .i64 k ∧ Below W0.heap.size W0 wr) (fun i _ => L.length - (intOf i).toNat)
  case atStart => exact ⟨0, Nat.zero_le _, rfl, Below.refl _ _⟩
  case round =>
    obtain ⟨k, hk, rfl, hBr⟩ := hrel
    have HBr := Lib.hid hBr
    clear x0 x1 x2 x3
    obtain ⟨x0, x1, x2, x3⟩ := HX.out wr hBr
    by_cases hlt : k < L.length
    · obtain ⟨p, hp⟩ : ∃ p, L[k]? = some p := ⟨L[k], by simp [hlt]⟩
      obtain ⟨q, hq⟩ : ∃ q, L'[k]? = some q := ⟨L'[k]'(by have := HLL.out; omega), by rw [List.getElem?_eq_getElem]⟩
      obtain ⟨b1, o1, ea, hb1, l1⟩ := HG.out.2.2.2.1 k p hp
      obtain ⟨b2, o2, eb, hb2, l2⟩ := HG.out.2.2.2.2.1 k q hq
      subst ea eb
      obtain ⟨m0, m1, m2⟩ := l1 k p hp
      obtain ⟨r0, r1, r2⟩ := l2 k q hq
      have hbw := on1K HG.out.1 hBr (Nat.le_refl _)
      obtain ⟨e1, e2, e3⟩ := kq_at HE.out hp hq
      have hpp := HG.out.2.1 p (List.mem_of_getElem? hp)
      have hqq := HG.out.2.2.1 q (List.mem_of_getElem? hq)
      obtain ⟨s1, s2⟩ := HSm.out p (List.mem_of_getElem? hp)
      obtain ⟨nm, of, fs, vo, vf⟩ := p
      obtain ⟨nm', of', fs', uo, uf⟩ := q
      simp only at e1 e2 e3 hpp hqq s1 s2 m0 m1 m2 r0 r1 r2
      subst e1 e2 e3
      have y0 := (hbw.cell (p := ⟨b1, o1 + k * 3, none⟩) hb1).trans m0
      have y1 := (hbw.cell (p := ⟨b1, o1 + k * 3 + 1, none⟩) hb1).trans m1
      have y2 := (hbw.cell (p := ⟨b1, o1 + k * 3 + 2, none⟩) hb1).trans m2
      have z0 := (hbw.cell (p := ⟨b2, o2 + k * 3, none⟩) hb2).trans r0
      have z1 := (hbw.cell (p := ⟨b2, o2 + k * 3 + 1, none⟩) hb2).trans r1
      have z2 := (hbw.cell (p := ⟨b2, o2 + k * 3 + 2, none⟩) hb2).trans r2
      obtain ⟨ao, co, eo⟩ := isS_sl' hpp.1
      obtain ⟨af, cf, ef⟩ := isF_sl' hpp.2
      obtain ⟨ao', co', eo'⟩ := isS_sl' hqq.1
      obtain ⟨af', cf', ef'⟩ := isF_sl' hqq.2
      subst eo ef eo' ef'
      have hn1 : ¬ b1 = wr.heap.size := by have := hbw.size; omega
      have hn2 : ¬ b2 = wr.heap.size := by have := hbw.size; omega
      have hold : ∀ {a : Addr} {v : Value}, wr.cell? a = some v → ∀ o, (wr.alloc o).cell? a = some v := fun {a v} h o => ((b_allocK (Below.refl _ wr) (Nat.le_refl _) o).cell (World.block_lt_of_cell? wr _ h)).trans h
      have z0' := hold z0
      have z1' := hold z1
      have z2' := hold z2
      have x2' := hold x2
      have hB2 : Below wr.heap.size wr ((wr.alloc (.cells #[.string (bs nm), .slice ao of.length co, .slice af fs.length cf] 29)).alloc (.cells #[.string (bs nm), .slice ao' of.length co', .slice af' fs.length cf'] 29)) := b_allocK (b_allocK (Below.refl _ _) (Nat.le_refl _) _) (Nat.le_refl _) _
      have hb2w := on1K hbw hB2 (Nat.le_refl _)
      have cT := texts_same (hpp.1.on hb2w) (hqq.1.on hb2w) s1
      have cF := fun W3 (hB3 : Below ((wr.alloc (.cells #[.string (bs nm), .slice ao of.length co, .slice af fs.length cf] 29)).alloc (.cells #[.string (bs nm), .slice ao' of.length co', .slice af' fs.length cf'] 29)).heap.size ((wr.alloc (.cells #[.string (bs nm), .slice ao of.length co, .slice af fs.length cf] 29)).alloc (.cells #[.string (bs nm), .slice ao' of.length co', .slice af' fs.length cf'] 29)) W3) => fields_same (hpp.2.on (on1K hb2w hB3 (Nat.le_refl _))) (hqq.2.on (on1K hb2w hB3 (Nat.le_refl _))) s2
      have HC : Hid (∀ W3, Below ((wr.alloc (.cells #[.string (bs nm), .slice ao of.length co, .slice af fs.length cf] 29)).alloc (.cells #[.string (bs nm), .slice ao' of.length co', .slice af' fs.length cf'] 29)).heap.size ((wr.alloc (.cells #[.string (bs nm), .slice ao of.length co, .slice af fs.length cf] 29)).alloc (.cells #[.string (bs nm), .slice ao' of.length co', .slice af' fs.length cf'] 29)) W3 → (W3.cell? ⟨wr.heap.size, 0, none⟩ = some (.string (bs nm)) ∧ W3.cell? ⟨wr.heap.size, 2, none⟩ = some (.slice af fs.length cf) ∧ W3.cell? ⟨wr.heap.size + 1, 0, none⟩ = some (.string (bs nm)) ∧ W3.cell? ⟨wr.heap.size + 1, 2, none⟩ = some (.slice af' fs.length cf')) ∧ Below W0.heap.size W0 W3) := fun W3 hB3 => by
        have m0 : W3.heap[wr.heap.size]? = some (.cells #[.string (bs nm), .slice ao of.length co, .slice af fs.length cf] 29 (0, 0)) := (hB3.block _ (by simp; omega)).trans ((Below.heap_alloc _ _ _ (by simp)).trans (heap_alloc_new wr _))
        have m1 : W3.heap[wr.heap.size + 1]? = some (.cells #[.string (bs nm), .slice ao' of.length co', .slice af' fs.length cf'] 29 (0, 0)) := by
          have := heap_alloc_new (wr.alloc (.cells #[.string (bs nm), .slice ao of.length co, .slice af fs.length cf] 29)) (.cells #[.string (bs nm), .slice ao' of.length co', .slice af' fs.length cf'] 29)
          rw [World.size_alloc] at this
          exact (hB3.block _ (by simp)).trans this
        refine ⟨⟨?_, ?_, ?_, ?_⟩, on1K (on1K HBr.out hB2 (Nat.le_refl _)) hB3 (Nat.le_refl _)⟩ <;> simp [World.cell?, m0, m1]
      have hkL : (k : Int) < (L.length : Int) := by omega
      clear m0 m1 m2 r0 r1 r2 hb1 hb2 l1 l2 hp hq hbw hpp hqq hB2 hb2w hBr hold
      go_wp2_with (first | (go_at_call 22; refine cT.mono ?_; rintro e W3 ⟨rfl, hB3⟩; obtain ⟨⟨c0, c2, d0, d2⟩, _⟩ := HC.out W3 hB3; have cF3 := cF W3 hB3) | (go_at_call 23; refine cF3.mono ?_; rintro e W4 ⟨rfl, hB4⟩; obtain ⟨⟨g0, g2, h0, h2⟩, hW4⟩ := HC.out W4 (on1K hB3 hB4 (Nat.le_refl _)); have HW4 := Lib.hid hW4; clear hW4))
      go_roundw
      case rel => exact ⟨k + 1, by omega, by go_num, HW4.out⟩
      case measure => simp [intOf]; omega
    · obtain rfl : k = L.length := by omega
      clear hlt
      obtain ⟨W5, hW5⟩ : ∃ W5, W5 = wr := ⟨wr, rfl⟩
      subst hW5
      go_wp2
      go_loopw [10] (fun i wr => ∃ k : Nat, k ≤ B.length ∧ i = .int .i64 k ∧ Below W0.heap.size W0 wr) (fun i _ => B.length - (intOf i).toNat)
      case atStart => exact ⟨0, Nat.zero_le _, rfl, HBr.out⟩
      case round =>
        obtain ⟨k, hk, rfl, hBs⟩ := hrel
        have HBs := Lib.hid hBs
        clear x0 x1 x2 x3
        obtain ⟨x0, x1, x2, x3⟩ := HX.out wr hBs
        by_cases hlt : k < B.length
        · obtain ⟨p, hp⟩ : ∃ p, B[k]? = some p := ⟨B[k], by simp [hlt]⟩
          obtain ⟨b1, o1, ea, hb1, l1⟩ := HG.out.2.2.2.2.2.1 k p hp
          obtain ⟨b2, o2, eb, hb2, l2⟩ := HG.out.2.2.2.2.2.2 k p hp
          subst ea eb
          obtain ⟨m0, m1, m2, m3, m4⟩ := l1 k p hp
          obtain ⟨r0, r1, r2, r3, r4⟩ := l2 k p hp
          have hbw := on1K HG.out.1 hBs (Nat.le_refl _)
          have y0 := (hbw.cell (p := ⟨b1, o1 + k * 5, none⟩) hb1).trans m0
          have y1 := (hbw.cell (p := ⟨b1, o1 + k * 5 + 1, none⟩) hb1).trans m1
          have y2 := (hbw.cell (p := ⟨b1, o1 + k * 5 + 2, none⟩) hb1).trans m2
          have y3 := (hbw.cell (p := ⟨b1, o1 + k * 5 + 3, none⟩) hb1).trans m3
          have y4 := (hbw.cell (p := ⟨b1, o1 + k * 5 + 4, none⟩) hb1).trans m4
          have z0 := (hbw.cell (p := ⟨b2, o2 + k * 5, none⟩) hb2).trans r0
          have z1 := (hbw.cell (p := ⟨b2, o2 + k * 5 + 1, none⟩) hb2).trans r1
          have z2 := (hbw.cell (p := ⟨b2, o2 + k * 5 + 2, none⟩) hb2).trans r2
          have z3 := (hbw.cell (p := ⟨b2, o2 + k * 5 + 3, none⟩) hb2).trans r3
          have z4 := (hbw.cell (p := ⟨b2, o2 + k * 5 + 4, none⟩) hb2).trans r4
          have hkL : (k : Int) < (B.length : Int) := by omega
          clear m0 m1 m2 m3 m4 r0 r1 r2 r3 r4 hb1 hb2 l1 l2 hp hbw hBs
          go_wp2_with fail
          go_quiet (fail)
          go_wp2
          go_roundw
          case rel => exact ⟨k + 1, by omega, by go_num, b_drewK HBs.out _⟩
          case measure => simp [intOf]; omega
        · obtain rfl : k = B.length := by omega
          go_wp2
          go_ret
          exact ⟨rfl, on1K HG.out.1 hBs (Nat.le_refl _)⟩
end Go.Proofs.YtpmblbhemcippaaGreat

/-
  A schema as a parameter.
-/
namespace Go.Proofs.YtpmblbhemcippaaGreat
open Go.ChangeShapes Go.WideShapes Go.ChangeAt Go.RowKit Go.Joins Go.Deep
open Go.ChangeMaps (open_string shut_string)
set_option linter.unusedVariables false
set_option linter.unusedSimpArgs false

theorem ownC : ownKnob Tryz.prog.godebug = none := by kernel_rfl
theorem laidOutC : laidOutB Tryz.prog = true := by kernel_rfl
theorem cells28 : Tryz.prog.cellsOf 29 = 3 := by kernel_rfl
theorem cells26 : Tryz.prog.cellsOf 26 = 1 := by kernel_rfl
theorem cells25C : Tryz.prog.cellsOf 27 = 1 := by kernel_rfl
theorem cells24 : Tryz.prog.cellsOf 33 = 4 := by kernel_rfl
theorem cells9C : Tryz.prog.cellsOf 9 = 1 := by kernel_rfl
theorem cells3C : Tryz.prog.cellsOf 3 = 1 := by kernel_rfl
theorem cells4 : Tryz.prog.cellsOf 4 = 1 := by kernel_rfl

theorem cells44 : Tryz.prog.cellsOf 31 = 5 := by kernel_rfl
theorem cells22C : Tryz.prog.cellsOf 22 = 1 := by kernel_rfl
theorem cells23C : Tryz.prog.cellsOf 23 = 1 := by kernel_rfl
theorem cellsS25 : Tryz.prog.cellsOf 25 = 2 := by kernel_rfl
theorem types25C : Tryz.prog.cellTypes Tryz.prog.depth 25 = some [22, 23] := by kernel_rfl
theorem cell_plainC {W : World} {a : Addr} {u : Value} (h : W.cell? a = some u) : a.spot = none ∧ a.block < W.heap.size := by
  refine ⟨?_, World.block_lt_of_cell? W _ h⟩
  obtain ⟨bk, off, spot⟩ := a
  cases spot with
  | none => rfl
  | some sp =>
    exfalso
    unfold World.cell? at h
    split at h
    · simp at h
    · cases h
theorem addzC (a : Addr) : a.add 0 = a := by simp [Addr.add]

section
variable {H : Type} {enc : TypeId × Value → H}
set_option maxRecDepth 100000 in
theorem cells_field {W : World} {b : Nat} {sp : Nat → Bool} {hd : Bool} {n : Nat} {cs : List Value} {x : DataW H × List MemPlace} (hlen : cs.length = 4) (h : DataW.trod enc Tryz.prog W b sp hd n 33 cs = some x) :
    ∃ f : Fd, cs = f.cells ∧ f.nm.length ≤ maxLen := by
  obtain ⟨y0, y1, y2, y3, k, hxy, _, u0, u1, u2, u3⟩ := trod_struct4 Tryz.underlying33 h
  match cs, hlen with
  | [v0, v1, v2, v3], _ =>
    simp only [cells9C, cells3C, cells4, List.drop, List.take] at u0 u1 u2 u3
    obtain ⟨s0, e0, d0, z0⟩ := DataW.trod_string Tryz.underlying9 u0
    obtain ⟨q1, e1, d1, _⟩ := DataW.trod_int Tryz.underlying3 u1
    obtain ⟨b2, e2, _⟩ := DataW.trod_bool Tryz.underlying4 u2
    obtain ⟨b3, e3, _⟩ := DataW.trod_bool Tryz.underlying4 u3
    simp only [List.cons.injEq, and_true] at e0 e1 e2 e3
    subst e0; subst e1; subst e2; subst e3
    refine ⟨⟨s0.toList, q1, b2, b3⟩, ?_, ?_⟩
    · simp [Fd.cells, bs_self]
    · show s0.toList.length ≤ maxLen
      rw [Lib.toList_data, ← size_len]; exact z0
theorem open_names {W : World} {b : Nat} {sp : Nat → Bool} {hd : Bool} {n : Nat} {v : Value} {x : DataW H × List MemPlace} (h : DataW.trod enc Tryz.prog W b sp hd n 26 [v] = some x) : ∃ l, IsS W v l := by
  rcases open_slice Tryz.underlying26 h with ⟨hc, _⟩ | ⟨a, len, cap, m, n, D, Pl, hc, hb, hl, hm, hmm, _, hall⟩
  · simp only [List.cons.injEq, and_true] at hc
    exact ⟨[], .inl ⟨none, 0, hc, rfl, by decide, fun _ => rfl⟩⟩
  · simp only [List.cons.injEq, and_true] at hc
    subst hc
    have hlm : len ≤ m := by rw [hmm]; split <;> omega
    by_cases h0 : len = 0
    · subst h0
      exact ⟨[], .inl ⟨some a, cap, rfl, rfl, hm, fun e => by cases e⟩⟩
    · have each : ∀ i, i < len → ∃ q : Nm, W.cell? (a.add i) = some (.string (bs q)) := by
        intro i hi
        obtain ⟨cs', h1, h2⟩ := hall i (by omega)
        rw [cells9C, Nat.mul_one] at h1
        obtain ⟨_, hlen, hcell⟩ := World.cells?_some h1
        obtain ⟨s, rfl, _⟩ := DataW.trod_string Tryz.underlying9 h2
        have c0 := hcell 0 (by omega)
        refine ⟨s.toList, ?_⟩
        rw [bs_self]
        rw [addzC] at c0
        simpa using c0
      obtain ⟨q, hq⟩ := choose_lt each
      have q0 := hq 0 (by omega)
      rw [addzC] at q0
      obtain ⟨e1, e2⟩ := cell_plainC q0
      obtain ⟨bk, off, spot⟩ := a
      simp only at e1 e2
      subst e1
      refine ⟨(List.range len).map q, .inr ⟨bk, off, cap, by simp, by simpa using hl, hm, e2, fun k y hy => ?_⟩⟩
      rw [List.getElem?_map] at hy
      obtain ⟨k', h1, h2⟩ := Option.map_eq_some_iff.1 hy
      obtain ⟨h3, h4⟩ := List.getElem?_eq_some_iff.1 h1
      simp at h3 h4
      subst h4; subst h2
      have := hq k h3
      rwa [Addr.add_lit] at this
theorem open_fields {W : World} {b : Nat} {sp : Nat → Bool} {hd : Bool} {n : Nat} {v : Value} {x : DataW H × List MemPlace} (h : DataW.trod enc Tryz.prog W b sp hd n 27 [v] = some x) : ∃ l, IsF W v l ∧ ∀ f ∈ l, f.nm.length ≤ maxLen := by
  rcases open_slice Tryz.underlying27 h with ⟨hc, _⟩ | ⟨a, len, cap, m, n, D, Pl, hc, hb, hl, hm, hmm, _, hall⟩
  · simp only [List.cons.injEq, and_true] at hc
    exact ⟨[], .inl ⟨none, 0, hc, rfl, by decide, fun _ => rfl⟩, fun f hf => by simp at hf⟩
  · simp only [List.cons.injEq, and_true] at hc
    subst hc
    have hlm : len ≤ m := by rw [hmm]; split <;> omega
    by_cases h0 : len = 0
    · subst h0
      exact ⟨[], .inl ⟨some a, cap, rfl, rfl, hm, fun e => by cases e⟩, fun f hf => by simp at hf⟩
    · have each : ∀ i, i < len → ∃ f : Fd, (∀ j, j < 4 → W.cell? ((a.add (i * 4)).add j) = f.cells[j]?) ∧ f.nm.length ≤ maxLen := by
        intro i hi
        obtain ⟨cs', h1, h2⟩ := hall i (by omega)
        rw [cells24] at h1
        obtain ⟨_, hlen, hcell⟩ := World.cells?_some h1
        obtain ⟨f, rfl, z⟩ := cells_field hlen h2
        exact ⟨f, hcell, z⟩
      haveI : Inhabited Fd := ⟨⟨[], 0, false, false⟩⟩
      obtain ⟨q, hq⟩ := choose_lt each
      have hsp : a.spot = none ∧ a.block < W.heap.size := by
        have c0 := (hq 0 (by omega)).1 0 (by decide)
        rw [addzC, Nat.zero_mul, addzC] at c0
        exact cell_plainC (c0.trans rfl)
      obtain ⟨bk, off, spot⟩ := a
      obtain ⟨e1, e2⟩ := hsp
      simp only at e1 e2
      subst e1
      refine ⟨(List.range len).map q, .inr ⟨bk, off, cap, by simp, by simpa using hl, hm, e2, fun k y hy => ?_⟩, fun f hf => ?_⟩
      · rw [List.getElem?_map] at hy
        obtain ⟨k', h1, h2⟩ := Option.map_eq_some_iff.1 hy
        obtain ⟨h3, h4⟩ := List.getElem?_eq_some_iff.1 h1
        simp at h3 h4
        subst h4; subst h2
        have hh := (hq k h3).1
        have c0 := hh 0 (by decide)
        have c1 := hh 1 (by decide)
        have c2 := hh 2 (by decide)
        have c3 := hh 3 (by decide)
        rw [Addr.add_lit, Addr.add_lit] at c0 c1 c2 c3
        exact ⟨by simpa [Fd.cells] using c0, by simpa [Fd.cells] using c1, by simpa [Fd.cells] using c2, by simpa [Fd.cells] using c3⟩
      · obtain ⟨i, hi, rfl⟩ := List.mem_map.1 hf
        exact (hq i (List.mem_range.1 hi)).2
theorem shape_lt {W : World} {b : Nat} {x : TypeId × Nat} (h : W.shape? b = some x) : b < W.heap.size := by
  rcases Nat.lt_or_ge b W.heap.size with h1 | h1
  · exact h1
  · exfalso
    simp [World.shape?, Array.getElem?_eq_none h1] at h
set_option maxRecDepth 100000 in
theorem open_kinds {W : World} {r : Reach} {b0 b : Nat} {sp : Nat → Bool} {hd : Bool} {v : Value} {d : DataW H} {p : List MemPlace} (hv : Value.okWide Tryz.prog W r b0 22 v) (h : DataW.Trod enc Tryz.prog W b sp hd 22 v d p) :
    ∃ L, IsK W v L ∧ Parts W L ∧ SzK L := by
  obtain ⟨a, len, cap, rfl⟩ := okWide_slice Tryz.underlying22 hv
  obtain ⟨fuel, hf⟩ := h
  have hf' : DataW.trod enc Tryz.prog W b sp hd fuel 22 [.slice a len cap] = some (d, p) := by simpa [Value.cells] using hf
  rcases open_slice Tryz.underlying22 hf' with ⟨hc, _⟩ | ⟨a', len', cap', m, n, D, Pl, hc, hb, hl, hm, hmm, _, hall⟩
  · simp only [List.cons.injEq, and_true] at hc
    exact ⟨[], .inl ⟨hc, rfl⟩, fun q hq => by simp at hq, fun q hq => by simp at hq⟩
  · simp only [List.cons.injEq, and_true, Value.slice.injEq] at hc
    obtain ⟨rfl, rfl, rfl⟩ := hc
    have hlm : len ≤ m := by rw [hmm]; split <;> omega
    simp only [Value.okWide, Tryz.underlying22, Cell.okWide, Cell.ok] at hv
    obtain ⟨_, _, _, hsp, row, cells, hsh, _⟩ := hv
    have hlt := shape_lt hsh
    obtain ⟨bk, off, spot⟩ := a'
    simp only at hsp hlt
    subst hsp
    have each : ∀ i, i < len → ∃ q : Kd, (W.cell? ⟨bk, off + i * 3, none⟩ = some (.string (bs q.nm)) ∧ W.cell? ⟨bk, off + i * 3 + 1, none⟩ = some q.vo ∧ W.cell? ⟨bk, off + i * 3 + 2, none⟩ = some q.vf) ∧ (IsS W q.vo q.of ∧ IsF W q.vf q.fs) ∧ (q.nm.length ≤ maxLen ∧ ∀ f ∈ q.fs, f.nm.length ≤ maxLen) := by
      intro i hi
      obtain ⟨cs', h1, h2⟩ := hall i (by omega)
      rw [cells28] at h1
      obtain ⟨_, hlen, hcell⟩ := World.cells?_some h1
      obtain ⟨y0, y1, y2, k, hxy, _, u0, u1, u2⟩ := trod_struct3 Tryz.underlying29 h2
      match cs', hlen with
      | [v0, v1, v2], _ =>
        simp only [cells9C, cells26, cells25C, List.drop, List.take] at u0 u1 u2
        obtain ⟨s0, e0, d0, z0⟩ := DataW.trod_string Tryz.underlying9 u0
        simp only [List.cons.injEq, and_true] at e0
        subst e0
        obtain ⟨lo1, hS⟩ := open_names u1
        obtain ⟨lf, hF, hZ⟩ := open_fields u2
        have c0 := hcell 0 (by omega)
        have c1 := hcell 1 (by omega)
        have c2 := hcell 2 (by omega)
        rw [Addr.add_lit, Addr.add_lit] at c0 c1 c2
        refine ⟨⟨s0.toList, lo1, lf, v1, v2⟩, ⟨?_, by simpa using c1, by simpa using c2⟩, ⟨hS, hF⟩, ?_, hZ⟩
        · show _ = some (Value.string (bs s0.toList))
          rw [bs_self]; simpa using c0
        · show s0.toList.length ≤ maxLen
          rw [Lib.toList_data, ← size_len]; exact z0
    haveI : Inhabited Kd := ⟨⟨[], [], [], .nilIface, .nilIface⟩⟩
    obtain ⟨q, hq⟩ := choose_lt each
    refine ⟨(List.range len).map q, .inr ⟨bk, off, cap, by simp, by simpa using hl, hm, hlt, fun k x hx => ?_⟩, fun x hx => ?_, fun x hx => ?_⟩
    · rw [List.getElem?_map] at hx
      obtain ⟨k', h1, h2⟩ := Option.map_eq_some_iff.1 hx
      obtain ⟨h3, h4⟩ := List.getElem?_eq_some_iff.1 h1
      simp at h3 h4
      subst h4; subst h2
      exact (hq k h3).1
    · obtain ⟨i, hi, rfl⟩ := List.mem_map.1 hx
      exact (hq i (List.mem_range.1 hi)).2.1
    · obtain ⟨i, hi, rfl⟩ := List.mem_map.1 hx
      exact (hq i (List.mem_range.1 hi)).2.2
theorem trod_five {W : World} {b : Nat} {sp : Nat → Bool} {hd : Bool} {t : TypeId} {f0 f1 f2 f3 f4 : Field} {fuel : Nat} {cs : List Value} {x : DataW H × List MemPlace} (ht : Tryz.prog.underlying t = some (.struct #[f0, f1, f2, f3, f4])) (h : DataW.trod enc Tryz.prog W b sp hd fuel t cs = some x) :
    ∃ y0 y1 y2 y3 y4 n, DataW.trod enc Tryz.prog W b sp hd n f0.type ((cs.drop f0.offset).take (Tryz.prog.cellsOf f0.type)) = some y0 ∧ DataW.trod enc Tryz.prog W b sp hd n f1.type ((cs.drop f1.offset).take (Tryz.prog.cellsOf f1.type)) = some y1 ∧ DataW.trod enc Tryz.prog W b sp hd n f2.type ((cs.drop f2.offset).take (Tryz.prog.cellsOf f2.type)) = some y2 ∧ DataW.trod enc Tryz.prog W b sp hd n f3.type ((cs.drop f3.offset).take (Tryz.prog.cellsOf f3.type)) = some y3 ∧ DataW.trod enc Tryz.prog W b sp hd n f4.type ((cs.drop f4.offset).take (Tryz.prog.cellsOf f4.type)) = some y4 := by
  obtain ⟨xs, n, _, _, _, hxl, hf⟩ := DataW.trod_struct ht h
  match xs, hxl with
  | [y0, y1, y2, y3, y4], _ => exact ⟨y0, y1, y2, y3, y4, n, hf 0 f0 rfl, hf 1 f1 rfl, hf 2 f2 rfl, hf 3 f3 rfl, hf 4 f4 rfl⟩
set_option maxRecDepth 100000 in
theorem open_bonds {W : World} {r : Reach} {b0 b : Nat} {sp : Nat → Bool} {hd : Bool} {v : Value} {d : DataW H} {p : List MemPlace} (hv : Value.okWide Tryz.prog W r b0 23 v) (h : DataW.Trod enc Tryz.prog W b sp hd 23 v d p) :
    ∃ L, IsB W v L ∧ SzB L := by
  obtain ⟨a, len, cap, rfl⟩ := okWide_slice Tryz.underlying23 hv
  obtain ⟨fuel, hf⟩ := h
  have hf' : DataW.trod enc Tryz.prog W b sp hd fuel 23 [.slice a len cap] = some (d, p) := by simpa [Value.cells] using hf
  rcases open_slice Tryz.underlying23 hf' with ⟨hc, _⟩ | ⟨a', len', cap', m, n, D, Pl, hc, hb, hl, hm, hmm, _, hall⟩
  · simp only [List.cons.injEq, and_true] at hc
    exact ⟨[], .inl ⟨hc, rfl⟩, fun q hq => by simp at hq⟩
  · simp only [List.cons.injEq, and_true, Value.slice.injEq] at hc
    obtain ⟨rfl, rfl, rfl⟩ := hc
    have hlm : len ≤ m := by rw [hmm]; split <;> omega
    simp only [Value.okWide, Tryz.underlying23, Cell.okWide, Cell.ok] at hv
    obtain ⟨_, _, _, hsp, row, cells, hsh, _⟩ := hv
    have hlt := shape_lt hsh
    obtain ⟨bk, off, spot⟩ := a'
    simp only at hsp hlt
    subst hsp
    have each : ∀ i, i < len → ∃ q : Bd, (W.cell? ⟨bk, off + i * 5, none⟩ = some (.string (bs q.nm)) ∧ W.cell? ⟨bk, off + i * 5 + 1, none⟩ = some (.string (bs q.fr)) ∧ W.cell? ⟨bk, off + i * 5 + 2, none⟩ = some (.string (bs q.tt)) ∧ W.cell? ⟨bk, off + i * 5 + 3, none⟩ = some (.int .i64 q.mn) ∧ W.cell? ⟨bk, off + i * 5 + 4, none⟩ = some (.int .i64 q.mx)) ∧ q.nm.length ≤ maxLen := by
      intro i hi
      obtain ⟨cs', h1, h2⟩ := hall i (by omega)
      rw [cells44] at h1
      obtain ⟨_, hlen, hcell⟩ := World.cells?_some h1
      obtain ⟨y0, y1, y2, y3, y4, k, u0, u1, u2, u3, u4⟩ := trod_five Tryz.underlying31 h2
      match cs', hlen with
      | [v0, v1, v2, v3, v4], _ =>
        simp only [cells9C, cells3C, List.drop, List.take] at u0 u1 u2 u3 u4
        obtain ⟨s0, e0, d0, z0⟩ := DataW.trod_string Tryz.underlying9 u0
        obtain ⟨s1, e1, d1, z1⟩ := DataW.trod_string Tryz.underlying9 u1
        obtain ⟨s2, e2, d2, z2⟩ := DataW.trod_string Tryz.underlying9 u2
        obtain ⟨q3, e3, d3, _⟩ := DataW.trod_int Tryz.underlying3 u3
        obtain ⟨q4, e4, d4, _⟩ := DataW.trod_int Tryz.underlying3 u4
        simp only [List.cons.injEq, and_true] at e0 e1 e2 e3 e4
        subst e0; subst e1; subst e2; subst e3; subst e4
        have c0 := hcell 0 (by omega)
        have c1 := hcell 1 (by omega)
        have c2 := hcell 2 (by omega)
        have c3 := hcell 3 (by omega)
        have c4 := hcell 4 (by omega)
        rw [Addr.add_lit, Addr.add_lit] at c0 c1 c2 c3 c4
        refine ⟨⟨s0.toList, s1.toList, s2.toList, q3, q4⟩, ⟨?_, ?_, ?_, by simpa using c3, by simpa using c4⟩, ?_⟩
        · show _ = some (Value.string (bs s0.toList))
          rw [bs_self]; simpa using c0
        · show _ = some (Value.string (bs s1.toList))
          rw [bs_self]; simpa using c1
        · show _ = some (Value.string (bs s2.toList))
          rw [bs_self]; simpa using c2
        · show s0.toList.length ≤ maxLen
          rw [Lib.toList_data, ← size_len]; exact z0
    haveI : Inhabited Bd := ⟨⟨[], [], [], 0, 0⟩⟩
    obtain ⟨q, hq⟩ := choose_lt each
    refine ⟨(List.range len).map q, .inr ⟨bk, off, cap, by simp, by simpa using hl, hm, hlt, fun k x hx => ?_⟩, fun x hx => ?_⟩
    · rw [List.getElem?_map] at hx
      obtain ⟨k', h1, h2⟩ := Option.map_eq_some_iff.1 hx
      obtain ⟨h3, h4⟩ := List.getElem?_eq_some_iff.1 h1
      simp at h3 h4
      subst h4; subst h2
      exact (hq k h3).1
    · obtain ⟨i, hi, rfl⟩ := List.mem_map.1 hx
      exact (hq i (List.mem_range.1 hi)).2
set_option maxRecDepth 100000 in
theorem open_schema {W : World} {r : Reach} {b0 b : Nat} {sp : Nat → Bool} {hd : Bool} {v : Value} {d : DataW H} {p : List MemPlace} (hv : Value.okWide Tryz.prog W r b0 25 v) (h : DataW.Trod enc Tryz.prog W b sp hd 25 v d p) :
    ∃ L B, IsSc W v L B := by
  simp only [Value.okWide, Tryz.underlying25] at hv
  obtain ⟨cs, rfl, hcs, ts, hts, _, hrow⟩ := hv
  rw [cellsS25] at hcs
  obtain rfl := Option.some.inj (types25C.symm.trans hts)
  obtain ⟨l⟩ := cs
  match l, hcs with
  | [vk, vb], _ =>
    obtain ⟨t0, e0, w0⟩ := hrow 0 vk rfl
    obtain ⟨t1, e1, w1⟩ := hrow 1 vb rfl
    obtain rfl : 22 = t0 := by simpa using e0
    obtain rfl : 23 = t1 := by simpa using e1
    have o0 : Value.okWide Tryz.prog W r b0 22 vk := by simp only [Value.okWide, Tryz.underlying22]; exact w0
    have o1 : Value.okWide Tryz.prog W r b0 23 vb := by simp only [Value.okWide, Tryz.underlying23]; exact w1
    obtain ⟨a0, l0, c0, rfl⟩ := okWide_slice Tryz.underlying22 o0
    obtain ⟨a1, l1, c1, rfl⟩ := okWide_slice Tryz.underlying23 o1
    obtain ⟨fuel, hf⟩ := h
    have hf' : DataW.trod enc Tryz.prog W b sp hd fuel 25 [.slice a0 l0 c0, .slice a1 l1 c1] = some (d, p) := by simpa [Value.cells] using hf
    obtain ⟨y0, y1, k, _, _, u0, u1⟩ := trod_struct2 Tryz.underlying25 hf'
    simp only [cells22C, cells23C, List.drop, List.take] at u0 u1
    obtain ⟨L, h1, h2, h3⟩ := open_kinds (d := y0.1) (p := y0.2) o0 ⟨k, by simpa [Value.cells] using u0⟩
    obtain ⟨B, h4, h5⟩ := open_bonds (d := y1.1) (p := y1.2) o1 ⟨k, by simpa [Value.cells] using u1⟩
    exact ⟨L, B, _, _, rfl, h1, h2, h3, h4, h5⟩
end
end Go.Proofs.YtpmblbhemcippaaGreat
