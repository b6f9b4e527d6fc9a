/-
  Who comes of whom: what is known of kinds without a fault: mathematics.
-/
import Derived.Test.YtholhlibcofojabDoorKinO
namespace Go.Proofs.YtholhlibcofojabDoor
open Go.RowKit
set_option linter.unusedVariables false
set_option linter.unusedSimpArgs false

theorem kin_filter {L : List Kd} {a : Nm} (h : nmErr L a = 0) : kin L a = L.filter fun x => hasN (names L a) x.nm := by
  obtain ⟨hG, hn, j, q, hx, hat, hq, hqa⟩ := nmErr_zero h
  unfold kin
  rw [hat, kinOf_at hG.right hq, hqa]
theorem kin_mem {L : List Kd} {a : Nm} (h : nmErr L a = 0) (x : Kd) : x ∈ kin L a ↔ x ∈ L ∧ x.nm ∈ names L a := by
  rw [kin_filter h, List.mem_filter, hasN_iff]
theorem nms_mem {L : List Kd} {a : Nm} (h : nmErr L a = 0) (n : Nm) : n ∈ nms (kin L a) ↔ n ∈ names L a ∧ ∃ x ∈ L, x.nm = n := by
  unfold nms
  rw [List.mem_map]
  constructor
  · rintro ⟨x, hx, rfl⟩
    obtain ⟨h1, h2⟩ := (kin_mem h x).1 hx
    exact ⟨h2, x, h1, rfl⟩
  · rintro ⟨h1, x, h2, rfl⟩
    exact ⟨x, (kin_mem h x).2 ⟨h2, h1⟩, rfl⟩
theorem self_mem {L : List Kd} {a : Nm} (h : nmErr L a = 0) : hasN (nms (kin L a)) a = true := by
  obtain ⟨hG, hn, j, q, hx, hat, hq, hqa⟩ := nmErr_zero h
  rw [hasN_iff, nms_mem h]
  exact ⟨names_self L a, q, List.mem_of_getElem? hq, hqa⟩
theorem isErr_zero {L : List Kd} {a b : Nm} (h : isErr L a b = 0) : nmErr L a = 0 ∧ nmErr L b = 0 := by
  unfold isErr at h
  split at h
  · rename_i h1
    split at h
    · exact absurd h (by decide)
    · rename_i h2
      refine ⟨h1, ?_⟩
      unfold nmErr
      have hk : (ksErr L).2 = 0 := ksErr_good.2 ⟨(nmErr_zero h1).1, (nmErr_zero h1).2.1⟩
      rw [if_pos hk, if_neg h2]
  · rename_i h1; exact absurd h h1
theorem is_trans {L : List Kd} {a b c : Nm} (h1 : isErr L a b = 0) (h2 : isErr L b c = 0) (h3 : isErr L a c = 0) (k1 : isKin L a b = true) (k2 : isKin L b c = true) : isKin L a c = true := by
  have ea := (isErr_zero h1).1
  have eb := (isErr_zero h1).2
  unfold isKin at *
  rw [if_pos h1, hasN_iff, nms_mem ea] at k1
  rw [if_pos h2, hasN_iff, nms_mem eb] at k2
  rw [if_pos h3, hasN_iff, nms_mem ea]
  exact ⟨names_trans (nmErr_zero ea).1.right k1.1 k2.1, k2.2⟩
theorem kin_err {L : List Kd} {a n : Nm} (h : nmErr L a = 0) (hn : n ∈ nms (kin L a)) : nmErr L n = 0 := by
  obtain ⟨h1, x, h2, rfl⟩ := (nms_mem h n).1 hn
  unfold nmErr
  have hk : (ksErr L).2 = 0 := ksErr_good.2 ⟨(nmErr_zero h).1, (nmErr_zero h).2.1⟩
  rw [if_pos hk, if_neg (fun e => idxK_none e x h2 rfl)]
theorem unds_mem (L : List Kd) (n : Nm) (xs : List Nat) (i : Nat) (k : Kd) (hi : i ∈ xs) (hk : L[i]? = some k) (h : ¬ idxK n (kinOf (L.take (i + 1))) 0 = -1) : k.nm ∈ unds L n xs := by
  induction xs with
  | nil => simp at hi
  | cons j r ih =>
    simp only [unds]
    rcases List.mem_cons.1 hi with rfl | hi
    · rw [hk]; simp only; rw [if_neg h]; simp
    · have := ih hi
      cases L[j]? with
      | none => exact this
      | some x =>
        simp only
        split
        · exact this
        · exact List.mem_cons_of_mem _ this
theorem under_has {L : List Kd} {a n : Nm} (h : nmErr L a = 0) (hn : n ∈ nms (kin L a)) : hasN (under L n) a = true := by
  obtain ⟨hG, hl, j, q, hx, hat, hq, hqa⟩ := nmErr_zero h
  rw [hasN_iff]
  unfold under
  have hjl := (List.getElem?_eq_some_iff.1 hq).1
  rw [← hqa]
  refine unds_mem L n _ j q (by simpa using hjl) hq ?_
  have hk : kin L a = kinOf (L.take (j + 1)) := by unfold kin; rw [hat]
  rw [← hk]
  obtain ⟨x, hx2, rfl⟩ := List.mem_map.1 hn
  exact fun e => idxK_none e x hx2 rfl
theorem fields_mem {L : List Kd} {a : Nm} (h : nmErr L a = 0) (f : Fd) : f ∈ fields L a ↔ ∃ x ∈ kin L a, f ∈ x.fs := by
  obtain ⟨hG, hl, j, q, hx, hat, hq, hqa⟩ := nmErr_zero h
  obtain ⟨l, hl1, hl2⟩ := hG.fields hq
  have hk : kin L a = kinOf (L.take (j + 1)) := by unfold kin; rw [hat]
  have hf : fields L a = l := by unfold fields; rw [hk, hl1]; rfl
  have hl3 : fOf [] ((kin L a).flatMap Kd.fs) = some l := by rw [hk]; exact hl1
  obtain ⟨_, hm, _⟩ := fOf_spec _ srt_nil hl3
  rw [hf, hm]
  simp [List.mem_flatMap]
theorem fields_sub {L : List Kd} {a n : Nm} (h : nmErr L a = 0) (hn : n ∈ nms (kin L a)) (f : Fd) (hf : f ∈ fields L n) : f ∈ fields L a := by
  have e := kin_err h hn
  obtain ⟨x, hx, hfx⟩ := (fields_mem e f).1 hf
  refine (fields_mem h f).2 ⟨x, ?_, hfx⟩
  obtain ⟨h1, h2⟩ := (kin_mem e x).1 hx
  exact (kin_mem h x).2 ⟨h1, names_trans (nmErr_zero h).1.right ((nms_mem h n).1 hn).1 h2⟩
end Go.Proofs.YtholhlibcofojabDoor
