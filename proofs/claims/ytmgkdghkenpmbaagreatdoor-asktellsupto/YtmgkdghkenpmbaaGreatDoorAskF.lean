/-
  The walks of withOne: one test more, one step more.
-/
import Derived.Test.YtmgkdghkenpmbaaGreatDoorAskE
import Derived.Laws.AppendOwn
import Derived.OwnWalk
namespace Go.Proofs.YtmgkdghkenpmbaaGreatDoor
open Go.RowKit
set_option linter.unusedVariables false
set_option linter.unusedSimpArgs false

theorem info_parts {P : Program} {t : TypeId} {z : Option Value} {s b : Nat} (h : (P.info? t).map (fun i => (i.zero, i.size, i.bytes)) = some (z, s, b)) :
    ∃ i, P.info? t = some i ∧ i.zero = z ∧ i.size = s ∧ i.bytes = b := by
  rcases h' : P.info? t with _ | i
  · rw [h'] at h; simp at h
  · rw [h'] at h; simp at h; exact ⟨i, rfl, h.1, h.2.1, h.2.2⟩
theorem infoT : (Tryz.prog.info? 33).map (fun i => (i.zero, i.size, i.bytes)) = some (some (.agg #[.string ⟨#[]⟩, .int .i64 0, .int .i64 0, .int .i64 0, .string ⟨#[]⟩]), 5, 56) := by kernel_rfl
theorem infoS : (Tryz.prog.info? 29).map (fun i => (i.zero, i.size, i.bytes)) = some (some (.agg #[.string ⟨#[]⟩, .bool false, .string ⟨#[]⟩, .slice none 0 0]), 4, 64) := by kernel_rfl
/-- The five cells of a test. -/
def Tst.cells (x : Tst) : List Value := [.string (bs x.nm), .int .i64 x.hw, .int .i64 x.t, .int .i64 x.n, .string (bs x.s)]
def cellsT (L : List Tst) : List Value := L.flatMap Tst.cells
theorem cellsT_app (L M : List Tst) : cellsT (L ++ M) = cellsT L ++ cellsT M := by simp [cellsT]
/-- A step in memory: its tests lie at vt. -/
structure Sp where
  st : St
  vt : Value
abbrev Sp.one (p : Sp) : Value := .agg #[.string (bs p.st.bd), .bool p.st.back, .string (bs p.st.kd), p.vt]
def Sp.cells (p : Sp) : List Value := [.string (bs p.st.bd), .bool p.st.back, .string (bs p.st.kd), p.vt]
def cellsS (L : List Sp) : List Value := L.flatMap Sp.cells
theorem cellsS_app (L M : List Sp) : cellsS (L ++ M) = cellsS L ++ cellsS M := by simp [cellsS]
/-- One more, up to one too many. -/
def oneMore {α : Type} (c : Nat) (l : List α) (x : α) : List α := if c < l.length then l else l ++ [x]
theorem oneMore_len {α : Type} {c : Nat} {l : List α} (x : α) (h : l.length ≤ c + 1) : (oneMore c l x).length ≤ c + 1 := by
  unfold oneMore
  split
  · exact h
  · simp; omega
def boxT (x : Tst) : Obj := .cells #[.string (bs x.nm), .int .i64 x.hw, .int .i64 x.t, .int .i64 x.n, .string (bs x.s)] 33
def boxS (x : Sp) : Obj := .cells #[.string (bs x.st.bd), .bool x.st.back, .string (bs x.st.kd), x.vt] 29

set_option maxHeartbeats 4000000 in
set_option maxRecDepth 100000 in
theorem withOneT_any (base : Nat) (v : Value) (l : List Tst) (x : Tst) (w : World) (ho : w.ownsRow base 33 5 v l.length (cellsT l)) (hb : base ≤ w.heap.size) (hl : l.length ≤ 9) :
    Calls Tryz.prog 61 #[v, x.one, .int .i64 8] w fun e w' => ∃ v', e = .returned v' ∧ w'.ownsRow base 33 5 v' (oneMore 8 l x).length (cellsT (oneMore 8 l x)) ∧ w.grownBy w' v.ownBlock := by
  obtain ⟨i0, hi0, hz0, hz1, hz2⟩ := info_parts infoT
  obtain ⟨ao, c, rfl⟩ := own_slice ho
  by_cases h12 : 8 < l.length
  · have HE : Hid (oneMore 8 l x = l) := by show _ = _; unfold oneMore; rw [if_pos h12]
    have HO : Hid ((w.alloc (boxT x)).ownsRow base 33 5 (.slice ao l.length c) l.length (cellsT l)) := ho.alloc _
    clear ho
    go_enter Tryz.func61, Tryz.ntmps61
    go_wp2
    go_ret
    exact ⟨_, rfl, by rw [HE.out]; exact HO.out, World.grownBy_alloc _ _ _⟩
  · have HE : Hid (oneMore 8 l x = l ++ [x]) := by show _ = _; unfold oneMore; rw [if_neg h12]
    have HO : Hid (((w.alloc (boxT x)).alloc (boxT x)).ownsRow base 33 5 (.slice ao l.length c) l.length (cellsT l)) := (ho.alloc _).alloc _
    have HM : Hid (l.length + 1 ≤ maxLen ∧ (l.length + 1) * 56 ≤ 140737488355328 ∧ base ≤ ((w.alloc (boxT x)).alloc (boxT x)).heap.size) := by unfold maxLen; exact ⟨by omega, by omega, by simp; omega⟩
    have hnw : ∀ j u, x.cells[j]? = some u → ((w.alloc (boxT x)).alloc (boxT x)).cell? ((⟨w.heap.size + 1, 0, none⟩ : Addr).add j) = some u := by
      have := new_at (w.alloc (boxT x)) x.cells 33
      rw [World.size_alloc] at this
      exact this
    have HNW := Lib.hid hnw
    have HG : Hid (∀ w', ((w.alloc (boxT x)).alloc (boxT x)).grownBy w' (Value.slice ao l.length c).ownBlock → w.grownBy w' (Value.slice ao l.length c).ownBlock) := fun w' h =>
      grown_trans (grown_trans (World.grownBy_alloc w (boxT x) _) (World.grownBy_alloc (w.alloc (boxT x)) (boxT x) _)) h
    clear ho hnw
    go_enter Tryz.func61, Tryz.ntmps61
    go_wp2_with (at_builtin; refine wpList_append_own _ rfl (.tmp 12) (.tmp 14) 27 rfl base 33 i0 _ 5 56 Tryz.underlying27 hi0 hz0 hz1 hz2 rfl (by decide) (.slice ao l.length c) l.length (cellsT l) rfl HO.out ⟨w.heap.size + 1, 0, none⟩ 1 1 x.cells rfl rfl HNW.out (by simp [Tst.cells, Value.oneCell']) HM.out.1 HM.out.2.1 HM.out.2.2 ?_; intro v1 w1 hown1 hgrow1 _; refine Hid.out ?_)
    refine Lib.hid ?_
    have HF : Hid (w1.ownsRow base 33 5 v1 (oneMore 8 l x).length (cellsT (oneMore 8 l x)) ∧ w.grownBy w1 (Value.slice ao l.length c).ownBlock) := by
      refine ⟨?_, HG.out _ hgrow1⟩
      rw [HE.out, List.length_append, cellsT_app]
      simpa [cellsT] using hown1
    clear hown1 hgrow1
    go_wp2
    go_ret
    exact ⟨_, rfl, HF.out.1, HF.out.2⟩

set_option maxHeartbeats 4000000 in
set_option maxRecDepth 100000 in
theorem withOneS_any (base : Nat) (v : Value) (l : List Sp) (x : Sp) (a1 : Option Addr) (n1 c1 : Nat) (e1 : x.vt = .slice a1 n1 c1) (w : World) (ho : w.ownsRow base 29 4 v l.length (cellsS l)) (hb : base ≤ w.heap.size) (hl : l.length ≤ 7) :
    Calls Tryz.prog 24 #[v, x.one, .int .i64 6] w fun e w' => ∃ v', e = .returned v' ∧ w'.ownsRow base 29 4 v' (oneMore 6 l x).length (cellsS (oneMore 6 l x)) ∧ w.grownBy w' v.ownBlock := by
  obtain ⟨i0, hi0, hz0, hz1, hz2⟩ := info_parts infoS
  obtain ⟨ao, c, rfl⟩ := own_slice ho
  have HC1 : Hid (∀ u ∈ x.cells, u.oneCell' = true) := by
    intro u hu
    unfold Sp.cells at hu
    rw [e1] at hu
    simp at hu
    rcases hu with rfl | rfl | rfl | rfl <;> rfl
  by_cases h12 : 6 < l.length
  · have HE : Hid (oneMore 6 l x = l) := by show _ = _; unfold oneMore; rw [if_pos h12]
    have HO : Hid ((w.alloc (boxS x)).ownsRow base 29 4 (.slice ao l.length c) l.length (cellsS l)) := ho.alloc _
    clear ho
    unfold Sp.one
    simp only [boxS, e1] at *
    go_enter Tryz.func24, Tryz.ntmps24
    go_wp2
    go_ret
    exact ⟨_, rfl, by rw [HE.out]; exact HO.out, World.grownBy_alloc _ _ _⟩
  · have HE : Hid (oneMore 6 l x = l ++ [x]) := by show _ = _; unfold oneMore; rw [if_neg h12]
    have HO : Hid (((w.alloc (boxS x)).alloc (boxS x)).ownsRow base 29 4 (.slice ao l.length c) l.length (cellsS l)) := (ho.alloc _).alloc _
    have HM : Hid (l.length + 1 ≤ maxLen ∧ (l.length + 1) * 64 ≤ 140737488355328 ∧ base ≤ ((w.alloc (boxS x)).alloc (boxS x)).heap.size) := by unfold maxLen; exact ⟨by omega, by omega, by simp; omega⟩
    have hnw : ∀ j u, x.cells[j]? = some u → ((w.alloc (boxS x)).alloc (boxS x)).cell? ((⟨w.heap.size + 1, 0, none⟩ : Addr).add j) = some u := by
      have := new_at (w.alloc (boxS x)) x.cells 29
      rw [World.size_alloc] at this
      exact this
    have HNW := Lib.hid hnw
    have HG : Hid (∀ w', ((w.alloc (boxS x)).alloc (boxS x)).grownBy w' (Value.slice ao l.length c).ownBlock → w.grownBy w' (Value.slice ao l.length c).ownBlock) := fun w' h =>
      grown_trans (grown_trans (World.grownBy_alloc w (boxS x) _) (World.grownBy_alloc (w.alloc (boxS x)) (boxS x) _)) h
    clear ho hnw
    unfold Sp.one
    simp only [boxS, Sp.cells, e1] at HO HM HNW HG HC1 ⊢
    go_enter Tryz.func24, Tryz.ntmps24
    go_wp2_with (at_builtin; refine wpList_append_own _ rfl (.tmp 12) (.tmp 14) 22 rfl base 29 i0 _ 4 64 Tryz.underlying22 hi0 hz0 hz1 hz2 rfl (by decide) (.slice ao l.length c) l.length (cellsS l) rfl HO.out ⟨w.heap.size + 1, 0, none⟩ 1 1 [.string (bs x.st.bd), .bool x.st.back, .string (bs x.st.kd), .slice a1 n1 c1] rfl rfl HNW.out HC1.out HM.out.1 HM.out.2.1 HM.out.2.2 ?_; intro v1 w1 hown1 hgrow1 _; refine Hid.out ?_)
    refine Lib.hid ?_
    have HF : Hid (w1.ownsRow base 29 4 v1 (oneMore 6 l x).length (cellsS (oneMore 6 l x)) ∧ w.grownBy w1 (Value.slice ao l.length c).ownBlock) := by
      refine ⟨?_, HG.out _ hgrow1⟩
      rw [HE.out, List.length_append, cellsS_app]
      simpa [cellsS, Sp.cells, e1] using hown1
    clear hown1 hgrow1
    go_wp2
    go_ret
    exact ⟨_, rfl, HF.out.1, HF.out.2⟩
end Go.Proofs.YtmgkdghkenpmbaaGreatDoor
