/-
  The walk of schema.Copy.
-/
import Derived.Test.YtkmkhadacppdnaaDoorOwn
namespace Go.Proofs.YtkmkhadacppdnaaDoor
open Go.RowKit
set_option linter.unusedVariables false
set_option linter.unusedSimpArgs false

/-- What a kind says, wherever its lists lie. -/
def kq3 (k : Kd) : Nm × List Nm × List Fd := (k.nm, k.of, k.fs)
def cellsBd (L : List Bd) : List Value := L.flatMap Bd.cells
/-- Kinds of the call's own, their lists, too. -/
def OwnKs (w : World) (base : Nat) (v : Value) (L : List Kd) : Prop := w.ownsRow base 34 3 v L.length (cellsK L) ∧ ∀ k ∈ L, w.ownsRow base 9 1 k.vo k.of.length (cellsS k.of) ∧ w.ownsRow base 38 4 k.vf k.fs.length (cellsF k.fs)
def OwnBs (w : World) (base : Nat) (v : Value) (B : List Bd) : Prop := w.ownsRow base 36 5 v B.length (cellsBd B)
theorem OwnKs.kt {w w' : World} {base : Nat} {v : Value} {L : List Kd} (h : OwnKs w base v L) (h36 : Kt 34 w w') (h9 : Kt 9 w w') (h32 : Kt 38 w w') : OwnKs w' base v L := ⟨own_kt h.1 h36, fun k hk => ⟨own_kt (h.2 k hk).1 h9, own_kt (h.2 k hk).2 h32⟩⟩
theorem infoKd : (Tryd.prog.info? 34).map (fun i => (i.zero, i.size, i.bytes)) = some (some (.agg #[.string ⟨#[]⟩, .slice none 0 0, .slice none 0 0]), 3, 64) := by kernel_rfl
theorem infoFdI : (Tryd.prog.info? 38).map (fun i => (i.zero, i.size, i.bytes)) = some (some (.agg #[.string ⟨#[]⟩, .int .i64 0, .bool false, .bool false]), 4, 32) := by kernel_rfl
theorem infoBdI : (Tryd.prog.info? 36).map (fun i => (i.zero, i.size, i.bytes)) = some (some (.agg #[.string ⟨#[]⟩, .string ⟨#[]⟩, .string ⟨#[]⟩, .int .i64 0, .int .i64 0]), 5, 64) := by kernel_rfl
theorem hasS {w : World} {v : Value} {l : List Nm} (h : IsS w v l) : HasC w v l.length (cellsS l) := by
  rcases h with ⟨ao, c, rfl, rfl, _⟩ | ⟨b, off, cap, rfl, _, _, hb, hl⟩
  · exact ⟨ao, c, rfl, .inl ⟨rfl, rfl⟩⟩
  · refine ⟨_, cap, rfl, .inr ⟨b, off, rfl, hb, fun j u hu => ?_⟩⟩
    unfold cellsS at hu
    rw [List.getElem?_map] at hu
    obtain ⟨n, h1, rfl⟩ := Option.map_eq_some_iff.1 hu
    rw [Addr.add_lit]
    exact hl j n h1
theorem fd_len (f : Fd) : f.cells.length = 4 := rfl
theorem bd_len (x : Bd) : x.cells.length = 5 := rfl
theorem hasF {w : World} {v : Value} {l : List Fd} (h : IsF w v l) : HasC w v l.length (cellsF l) := by
  rcases h with ⟨ao, c, rfl, rfl, _⟩ | ⟨b, off, cap, rfl, _, _, hb, hl⟩
  · exact ⟨ao, c, rfl, .inl ⟨rfl, rfl⟩⟩
  · refine ⟨_, cap, rfl, .inr ⟨b, off, rfl, hb, fun j u hu => ?_⟩⟩
    obtain ⟨k, x, i, hk, hi, rfl, hx⟩ := flatK_inv fd_len l hu
    obtain ⟨c0, c1, c2, c3⟩ := hl k x hk
    rw [Addr.add_lit, ← Nat.add_assoc]
    have : i = 0 ∨ i = 1 ∨ i = 2 ∨ i = 3 := by omega
    rcases this with rfl | rfl | rfl | rfl <;> (simp only [Fd.cells] at hx; simp at hx; subst hx)
    · exact c0
    · exact c1
    · exact c2
    · exact c3
theorem hasB {w : World} {v : Value} {l : List Bd} (h : IsB w v l) : HasC w v l.length (cellsBd l) := by
  rcases h with ⟨rfl, rfl⟩ | ⟨b, off, cap, rfl, _, _, hb, hl⟩
  · exact ⟨none, 0, rfl, .inl ⟨rfl, rfl⟩⟩
  · refine ⟨_, cap, rfl, .inr ⟨b, off, rfl, hb, fun j u hu => ?_⟩⟩
    obtain ⟨k, x, i, hk, hi, rfl, hx⟩ := flatK_inv bd_len l hu
    obtain ⟨c0, c1, c2, c3, c4⟩ := hl k x hk
    rw [Addr.add_lit, ← Nat.add_assoc]
    have : i = 0 ∨ i = 1 ∨ i = 2 ∨ i = 3 ∨ i = 4 := by omega
    rcases this with rfl | rfl | rfl | rfl | rfl <;> (simp only [Bd.cells] at hx; simp at hx; subst hx)
    · exact c0
    · exact c1
    · exact c2
    · exact c3
    · exact c4
theorem fd_one (L : List Fd) : ∀ u ∈ cellsF L, u.oneCell' = true := by
  intro u hu
  obtain ⟨p, _, hp⟩ := List.mem_flatMap.1 hu
  simp [Fd.cells] at hp
  rcases hp with rfl | rfl | rfl | rfl <;> rfl
theorem bd_oneI (L : List Bd) : ∀ u ∈ cellsBd L, u.oneCell' = true := by
  intro u hu
  obtain ⟨p, _, hp⟩ := List.mem_flatMap.1 hu
  simp [Bd.cells] at hp
  rcases hp with rfl | rfl | rfl | rfl | rfl <;> rfl
theorem str_one (L : List Nm) : ∀ u ∈ cellsS L, u.oneCell' = true := by
  intro u hu
  obtain ⟨p, _, rfl⟩ := List.mem_map.1 hu
  rfl
theorem clone_names (w : World) (base : Nat) (hb : base ≤ w.heap.size) {v : Value} {L : List Nm} (h : IsS w v L) (hl : L.length * 16 ≤ 140737488355328) (ty : TypeId) :
    ∃ v' w', (Builtin.append_ #[31, 31] ty #[.slice none 0 0, v]).run Tryd.prog w = .ok v' w' ∧ (w'.ownsRow base 9 1 v' L.length (cellsS L) ∧ w.grownBy w' none) := by
  obtain ⟨i0, hi0, hz0, hz1, hz2⟩ := info_parts info9
  exact run_clone w base 31 ty 9 i0 _ 1 16 Tryd.underlying31 hi0 hz0 hz1 hz2 rfl (by decide) v _ _ (hasS h) (cellsS_len L) (str_one L) (by unfold maxLen; omega) (by omega) hb
theorem clone_fields (w : World) (base : Nat) (hb : base ≤ w.heap.size) {v : Value} {L : List Fd} (h : IsF w v L) (hl : L.length * 32 ≤ 140737488355328) (ty : TypeId) :
    ∃ v' w', (Builtin.append_ #[32, 32] ty #[.slice none 0 0, v]).run Tryd.prog w = .ok v' w' ∧ (w'.ownsRow base 38 4 v' L.length (cellsF L) ∧ w.grownBy w' none) := by
  obtain ⟨i0, hi0, hz0, hz1, hz2⟩ := info_parts infoFdI
  exact run_clone w base 32 ty 38 i0 _ 4 32 Tryd.underlying32 hi0 hz0 hz1 hz2 rfl (by decide) v _ _ (hasF h) (flatK_len fd_len L) (fd_one L) (by unfold maxLen; omega) (by omega) hb
theorem clone_bonds (w : World) (base : Nat) (hb : base ≤ w.heap.size) {v : Value} {L : List Bd} (h : IsB w v L) (hl : L.length ≤ 1000) (ty : TypeId) :
    ∃ v' w', (Builtin.append_ #[23, 23] ty #[.slice none 0 0, v]).run Tryd.prog w = .ok v' w' ∧ (OwnBs w' base v' L ∧ w.grownBy w' none) := by
  obtain ⟨i0, hi0, hz0, hz1, hz2⟩ := info_parts infoBdI
  exact run_clone w base 23 ty 36 i0 _ 5 64 Tryd.underlying23 hi0 hz0 hz1 hz2 rfl (by decide) v _ _ (hasB h) (flatK_len bd_len L) (bd_oneI L) (by unfold maxLen; omega) (by omega) hb
end Go.Proofs.YtkmkhadacppdnaaDoor
