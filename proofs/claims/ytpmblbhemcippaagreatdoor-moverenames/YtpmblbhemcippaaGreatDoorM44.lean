/-
  move.turnOf.
-/
import Derived.Test.YtpmblbhemcippaaGreatDoorM17
import Derived.Deep.RegionHeld
import Derived.Deep.RegionHeld3
import Derived.Deep.RegionHeldLaw
import Derived.Deep.MidRow
import Derived.Deep.WholeRow
import Derived.Test.YtpmblbhemcippaaGreatDoorM31
import Derived.Deep.DeepCutAuto
namespace Go.Proofs.YtpmblbhemcippaaGreatDoor
open Go.RowKit
set_option linter.unusedVariables false
set_option linter.unusedSimpArgs false

theorem three (W0 : World) (a b c : Obj) : (((W0.alloc a).alloc b).alloc c).drew.heap[W0.heap.size]? = some a ∧ (((W0.alloc a).alloc b).alloc c).drew.heap[W0.heap.size + 1]? = some b ∧ (((W0.alloc a).alloc b).alloc c).drew.heap[W0.heap.size + 2]? = some c := by
  have h1 := heap_alloc_new W0 a
  have h2 := heap_alloc_new (W0.alloc a) b
  have h3 := heap_alloc_new ((W0.alloc a).alloc b) c
  rw [World.size_alloc] at h2
  rw [World.size_alloc, World.size_alloc] at h3
  refine ⟨?_, ?_, h3⟩
  · exact (heap_alloc_old _ _ (by simp; omega)).trans ((heap_alloc_old _ _ (by simp)).trans h1)
  · exact (heap_alloc_old _ _ (by simp)).trans h2
theorem three_below (W0 : World) (a b c : Obj) : Below W0.heap.size W0 (((W0.alloc a).alloc b).alloc c).drew := b_drew (b_alloc (b_alloc (b_alloc (Below.refl _ _) _) _) _)
set_option maxHeartbeats 8000000 in
set_option maxRecDepth 100000 in
theorem turnOf_any (c : Ch) (w : World) (ho : ∃ a l c', c.kd.vo = .slice a l c') (hf : ∃ a l c', c.kd.vf = .slice a l c') :
    Calls Tryz.prog 37 #[c.one] w fun e w' => ∃ fn, e = .returned fn ∧ Turns w' c fn ∧ Below w.heap.size w w' := by
  obtain ⟨wh, nm, ⟨kn, ko, kf, vo, vf⟩, ⟨bn, bf, bt, mn, mx⟩, ⟨fn, ft, fm, fk⟩, vt, vn, vs, tn⟩ := c
  obtain ⟨ao, lo1, co, q1⟩ := ho
  obtain ⟨af, lf1, cf, q2⟩ := hf
  simp only at q1 q2
  subst q1 q2
  obtain ⟨W0, hW0⟩ : ∃ W0, W0 = w.alloc (.cells #[.int .i64 wh, .string (bs nm), .string (bs kn), .slice ao lo1 co, .slice af lf1 cf, .string (bs bn), .string (bs bf), .string (bs bt), .int .i64 mn, .int .i64 mx, .string (bs fn), .int .i64 ft, .bool fm, .bool fk, .int .i64 vt, .int .i64 vn, .string (bs vs), .string (bs tn)] 38) := ⟨_, rfl⟩
  have hB0 : Below w.heap.size w W0 := by rw [hW0]; exact b_alloc (Below.refl _ _) _
  have n0 : W0.heap[w.heap.size]? = some (.cells #[.int .i64 wh, .string (bs nm), .string (bs kn), .slice ao lo1 co, .slice af lf1 cf, .string (bs bn), .string (bs bf), .string (bs bt), .int .i64 mn, .int .i64 mx, .string (bs fn), .int .i64 ft, .bool fm, .bool fk, .int .i64 vt, .int .i64 vn, .string (bs vs), .string (bs tn)] 38 (0, 0)) := by rw [hW0]; exact heap_alloc_new w _
  have hz0 : W0.heap.size = w.heap.size + 1 := by rw [hW0]; simp
  have d0 : W0.cell? ⟨w.heap.size, 0, none⟩ = some (.int .i64 wh) := cell_at n0 rfl
  have d10 : W0.cell? ⟨w.heap.size, 10, none⟩ = some (.string (bs fn)) := cell_at n0 rfl
  have d14 : W0.cell? ⟨w.heap.size, 14, none⟩ = some (.int .i64 vt) := cell_at n0 rfl
  have d15 : W0.cell? ⟨w.heap.size, 15, none⟩ = some (.int .i64 vn) := cell_at n0 rfl
  have d16 : W0.cell? ⟨w.heap.size, 16, none⟩ = some (.string (bs vs)) := cell_at n0 rfl
  have d17 : W0.cell? ⟨w.heap.size, 17, none⟩ = some (.string (bs tn)) := cell_at n0 rfl
  have HB := Lib.hid hB0
  have HZ := Lib.hid hz0
  have hne0 : ¬ w.heap.size = W0.heap.size := by omega
  have hne1 : ¬ w.heap.size = W0.heap.size + 1 := by omega
  have hne2 : ¬ w.heap.size = W0.heap.size + 2 := by omega
  clear hB0 n0 hz0
  have u0 := fun o1 => cell_old d0 o1
  have v0 := fun o1 o2 => cell_old (cell_old d0 o1) o2
  have x0 := fun o1 o2 o3 => cell_old (cell_old (cell_old d0 o1) o2) o3
  have u10 := fun o1 => cell_old d10 o1
  have v10 := fun o1 o2 => cell_old (cell_old d10 o1) o2
  have x10 := fun o1 o2 o3 => cell_old (cell_old (cell_old d10 o1) o2) o3
  have u14 := fun o1 => cell_old d14 o1
  have v14 := fun o1 o2 => cell_old (cell_old d14 o1) o2
  have x14 := fun o1 o2 o3 => cell_old (cell_old (cell_old d14 o1) o2) o3
  have u15 := fun o1 => cell_old d15 o1
  have v15 := fun o1 o2 => cell_old (cell_old d15 o1) o2
  have x15 := fun o1 o2 o3 => cell_old (cell_old (cell_old d15 o1) o2) o3
  have u16 := fun o1 => cell_old d16 o1
  have v16 := fun o1 o2 => cell_old (cell_old d16 o1) o2
  have x16 := fun o1 o2 o3 => cell_old (cell_old (cell_old d16 o1) o2) o3
  have u17 := fun o1 => cell_old d17 o1
  have v17 := fun o1 o2 => cell_old (cell_old d17 o1) o2
  have x17 := fun o1 o2 o3 => cell_old (cell_old (cell_old d17 o1) o2) o3
  by_cases h3 : wh = 3
  · subst h3
    go_enter Tryz.func37, Tryz.ntmps37
    go_upto_region 1 with fail
    rw [← hW0]
    clear hW0
    first | (go_region_held3 (fun w' => w'.cell? ⟨w.heap.size, 0, none⟩ = some (.int .i64 3) ∧ w'.cell? ⟨w.heap.size, 10, none⟩ = some (.string (bs fn)) ∧ w'.cell? ⟨w.heap.size, 14, none⟩ = some (.int .i64 vt) ∧ w'.cell? ⟨w.heap.size, 15, none⟩ = some (.int .i64 vn) ∧ w'.cell? ⟨w.heap.size, 16, none⟩ = some (.string (bs vs)) ∧ w'.cell? ⟨w.heap.size, 17, none⟩ = some (.string (bs tn))) (go_keep) (fail)) | fail
    all_goals
      rename_i hH
      obtain ⟨y0, _⟩ := hH
      go_wp2
      go_ret
      refine ⟨_, rfl, .inl ⟨rfl, _, _, rfl, ?_, ?_⟩, on1K HB.out (three_below W0 _ _ _) (Nat.le_refl _)⟩
      all_goals first | exact (three W0 _ _ _).1 | exact (three W0 _ _ _).2.1 | exact (three W0 _ _ _).2.2
  by_cases h4 : wh = 4
  · subst h4
    go_enter Tryz.func37, Tryz.ntmps37
    go_upto_region 1 with fail
    rw [← hW0]
    clear hW0
    first | (go_region_held3 (fun w' => w'.cell? ⟨w.heap.size, 0, none⟩ = some (.int .i64 4) ∧ w'.cell? ⟨w.heap.size, 10, none⟩ = some (.string (bs fn)) ∧ w'.cell? ⟨w.heap.size, 14, none⟩ = some (.int .i64 vt) ∧ w'.cell? ⟨w.heap.size, 15, none⟩ = some (.int .i64 vn) ∧ w'.cell? ⟨w.heap.size, 16, none⟩ = some (.string (bs vs)) ∧ w'.cell? ⟨w.heap.size, 17, none⟩ = some (.string (bs tn))) (go_keep) (fail)) | fail
    all_goals
      rename_i hH
      obtain ⟨y0, _⟩ := hH
      go_wp2
      go_ret
      refine ⟨_, rfl, .inr (.inl ⟨rfl, _, rfl, ?_⟩), on1K HB.out (three_below W0 _ _ _) (Nat.le_refl _)⟩
      all_goals first | exact (three W0 _ _ _).1 | exact (three W0 _ _ _).2.1 | exact (three W0 _ _ _).2.2
  by_cases h7 : wh = 7
  · subst h7
    go_enter Tryz.func37, Tryz.ntmps37
    go_upto_region 1 with fail
    rw [← hW0]
    clear hW0
    first | (go_region_held3 (fun w' => w'.cell? ⟨w.heap.size, 0, none⟩ = some (.int .i64 7) ∧ w'.cell? ⟨w.heap.size, 10, none⟩ = some (.string (bs fn)) ∧ w'.cell? ⟨w.heap.size, 14, none⟩ = some (.int .i64 vt) ∧ w'.cell? ⟨w.heap.size, 15, none⟩ = some (.int .i64 vn) ∧ w'.cell? ⟨w.heap.size, 16, none⟩ = some (.string (bs vs)) ∧ w'.cell? ⟨w.heap.size, 17, none⟩ = some (.string (bs tn))) (go_keep) (fail)) | fail
    all_goals
      rename_i hH
      obtain ⟨y0, _⟩ := hH
      go_wp2
      go_ret
      refine ⟨_, rfl, .inr (.inr (.inl ⟨rfl, _, _, rfl, ?_, ?_⟩)), on1K HB.out (three_below W0 _ _ _) (Nat.le_refl _)⟩
      all_goals first | exact (three W0 _ _ _).1 | exact (three W0 _ _ _).2.1 | exact (three W0 _ _ _).2.2
  have H3 := Lib.hid (And.intro h3 (And.intro h4 h7))
  have b3 : (wh == 3) = false := by simpa using h3
  have b4 : (wh == 4) = false := by simpa using h4
  have b7 : (wh == 7) = false := by simpa using h7
  clear h3 h4 h7
  go_enter Tryz.func37, Tryz.ntmps37
  go_upto_region 1 with fail
  rw [← hW0]
  clear hW0
  first | (go_region_held3 (fun w' => w'.cell? ⟨w.heap.size, 0, none⟩ = some (.int .i64 wh) ∧ w'.cell? ⟨w.heap.size, 10, none⟩ = some (.string (bs fn)) ∧ w'.cell? ⟨w.heap.size, 14, none⟩ = some (.int .i64 vt) ∧ w'.cell? ⟨w.heap.size, 15, none⟩ = some (.int .i64 vn) ∧ w'.cell? ⟨w.heap.size, 16, none⟩ = some (.string (bs vs)) ∧ w'.cell? ⟨w.heap.size, 17, none⟩ = some (.string (bs tn))) (go_keep) (fail)) | fail
  all_goals
    rename_i hH
    obtain ⟨y0, _⟩ := hH
    go_wp2
    go_ret
    refine ⟨_, rfl, .inr (.inr (.inr ⟨H3.out.1, H3.out.2.1, H3.out.2.2, rfl⟩)), on1K HB.out (three_below W0 _ _ _) (Nat.le_refl _)⟩
end Go.Proofs.YtpmblbhemcippaaGreatDoor
