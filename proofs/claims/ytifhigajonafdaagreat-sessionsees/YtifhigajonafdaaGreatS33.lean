/-
  The walk of index.keyNames.
-/
import Derived.Test.YtifhigajonafdaaGreatS18
import Derived.Test.YtifhigajonafdaaGreatS22
import Derived.Test.YtifhigajonafdaaGreatS04
namespace Go.Proofs.YtifhigajonafdaaGreat
open Go.RowKit
set_option linter.unusedVariables false
set_option linter.unusedSimpArgs false

def keysF (l : List Fd) : List Nm := (l.filter Fd.key).map Fd.nm
theorem keysF_yes {l : List Fd} {k : Nat} {f : Fd} (h : l[k]? = some f) (hk : f.key = true) : keysF (l.take (k + 1)) = keysF (l.take k) ++ [f.nm] := by
  unfold keysF
  rw [List.take_add_one, h, List.filter_append, List.map_append]
  simp [hk]
theorem keysF_no {l : List Fd} {k : Nat} {f : Fd} (h : l[k]? = some f) (hk : f.key = false) : keysF (l.take (k + 1)) = keysF (l.take k) := by
  unfold keysF
  rw [List.take_add_one, h, List.filter_append, List.map_append]
  simp [hk]
theorem keysF_len (l : List Fd) : (keysF l).length ≤ l.length := by
  unfold keysF
  rw [List.length_map]
  exact List.length_filter_le _ _
theorem isF_atI {w : World} {v : Value} {l : List Fd} (h : IsF w v l) : ∃ ao c, v = .slice ao l.length c ∧ ∀ j f, l[j]? = some f → ∃ b o, ao = some ⟨b, o, none⟩ ∧ b < w.heap.size ∧ w.cell? ⟨b, o + j * 4, none⟩ = some (.string (bs f.nm)) ∧ w.cell? ⟨b, o + j * 4 + 1, none⟩ = some (.int .i64 f.t) ∧ w.cell? ⟨b, o + j * 4 + 2, none⟩ = some (.bool f.must) ∧ w.cell? ⟨b, o + j * 4 + 3, none⟩ = some (.bool f.key) := by
  rcases h with ⟨ao, c, rfl, rfl, _⟩ | ⟨b, off, cap, rfl, hc, hm, hb, hl⟩
  · exact ⟨ao, c, rfl, fun j g hg => by simp at hg⟩
  · exact ⟨_, _, rfl, fun j g hg => ⟨b, off, rfl, hb, hl j g hg⟩⟩
theorem infoStr : (Tryz.prog.info? 9).map (fun i => (i.zero, i.size, i.bytes)) = some (some (.string ⟨#[]⟩), 1, 16) := by kernel_rfl
set_option maxHeartbeats 4000000 in
set_option maxRecDepth 100000 in
theorem keyNames_any {v : Value} {l : List Fd} {w : World} (h : IsF w v l) (hn : l.length ≤ 1000) :
    Calls Tryz.prog 46 #[v] w fun e w' => ∃ u, e = .returned u ∧ w'.ownsRow w.heap.size 9 1 u (keysF l).length (cellsS (keysF l)) ∧ Below w.heap.size w w' := by
  obtain ⟨ao, c, rfl, hv⟩ := isF_atI h
  obtain ⟨i9, hi9, hz90, hz91, hz92⟩ := info_parts infoStr
  have HV := Lib.hid hv
  clear h hv
  go_enter Tryz.func46, Tryz.ntmps46
  go_wp2
  go_loopw [3, 8] (fun s3 s8 wr => ∃ k : Nat, k ≤ l.length ∧ s8 = .int .i64 k ∧ wr.ownsRow w.heap.size 9 1 s3 (keysF (l.take k)).length (cellsS (keysF (l.take k))) ∧ Below w.heap.size w wr) (fun _ s8 _ => l.length - (intOf s8).toNat)
  case atStart => exact ⟨0, Nat.zero_le _, rfl, World.ownsRow_nil _ _ _ _, Below.refl _ _⟩
  case round =>
    obtain ⟨k, hk, rfl, hrow, hB⟩ := hrel
    obtain ⟨a3, c3, e3⟩ := own_sliceC hrow
    subst e3
    by_cases hlt : k < l.length
    · obtain ⟨f, hf⟩ : ∃ f, l[k]? = some f := ⟨l[k], by simp [hlt]⟩
      obtain ⟨b, o, rfl, hbl, d0, d1, d2, d3⟩ := HV.out k f hf
      have d0 := (hB.cell (p := ⟨b, o + k * 4, none⟩) hbl).trans d0
      have d1 := (hB.cell (p := ⟨b, o + k * 4 + 1, none⟩) hbl).trans d1
      have d2 := (hB.cell (p := ⟨b, o + k * 4 + 2, none⟩) hbl).trans d2
      have d3 := (hB.cell (p := ⟨b, o + k * 4 + 3, none⟩) hbl).trans d3
      have HF := Lib.hid hf
      have hkl : Hid ((keysF (l.take k)).length ≤ 1000) := by have := keysF_len (l.take k); rw [List.length_take] at this; show _ ≤ _; omega
      obtain ⟨nm, t, mu, ky⟩ := f
      simp only at d0 d1 d2 d3
      have hBa : Below wr.heap.size wr (wr.alloc (.cells #[.string (bs nm), .int .i64 t, .bool mu, .bool ky] 163)) := (Below.refl _ _).alloc (Nat.le_refl _) _
      have HR : Hid ((wr.alloc (.cells #[.string (bs nm), .int .i64 t, .bool mu, .bool ky] 163)).ownsRow w.heap.size 9 1 (.slice a3 (keysF (l.take k)).length c3) (keysF (l.take k)).length (cellsS (keysF (l.take k))) ∧ Below w.heap.size w (wr.alloc (.cells #[.string (bs nm), .int .i64 t, .bool mu, .bool ky] 163))) := ⟨hrow.alloc _, hB.trans (hBa.mono hB.size)⟩
      have hbn : ¬ b = wr.heap.size := by have := hB.size; omega
      clear hrow hf hbl hBa
      cases ky
      · have HN := Lib.hid (keysF_no HF.out rfl)
        clear hB
        go_wp2
        go_roundw
        case rel => exact ⟨k + 1, by omega, by go_num, by rw [HN.out]; exact HR.out.1, HR.out.2⟩
        case measure => simp [intOf]; omega
      · have HN := Lib.hid (keysF_yes HF.out rfl)
        have HA : Hid (((wr.alloc (.cells #[.string (bs nm), .int .i64 t, .bool mu, .bool true] 163)).alloc (.cells #[.string (bs nm)] 9)).ownsRow w.heap.size 9 1 (.slice a3 (keysF (l.take k)).length c3) (keysF (l.take k)).length (cellsS (keysF (l.take k))) ∧ Below w.heap.size w ((wr.alloc (.cells #[.string (bs nm), .int .i64 t, .bool mu, .bool true] 163)).alloc (.cells #[.string (bs nm)] 9))) := ⟨HR.out.1.alloc _, HR.out.2.alloc HR.out.2.size _⟩
        have HM : Hid ((keysF (l.take k)).length + 1 ≤ maxLen ∧ ((keysF (l.take k)).length + 1) * 16 ≤ 140737488355328) := by have := hkl.out; unfold maxLen; exact ⟨by omega, by omega⟩
        have hna : ∀ j u, [Value.string (bs nm)][j]? = some u → ((wr.alloc (.cells #[.string (bs nm), .int .i64 t, .bool mu, .bool true] 163)).alloc (.cells #[.string (bs nm)] 9)).cell? ((⟨wr.heap.size + 1, 0, none⟩ : Addr).add j) = some u := by
          have := new_atC (wr.alloc (.cells #[.string (bs nm), .int .i64 t, .bool mu, .bool true] 163)) [.string (bs nm)] 9
          rw [World.size_alloc] at this
          exact this
        have HNA := Lib.hid hna
        clear hna hB
        go_wp2_with (first | (at_builtin; refine wpList_append_own _ rfl (.tmp 14) (.tmp 17) 31 rfl w.heap.size 9 i9 _ 1 16 Tryz.underlying31 hi9 hz90 hz91 hz92 rfl (by decide) (.slice a3 (keysF (l.take k)).length c3) (keysF (l.take k)).length (cellsS (keysF (l.take k))) rfl HA.out.1 ⟨wr.heap.size + 1, 0, none⟩ 1 1 [.string (bs nm)] rfl rfl HNA.out (by simp [Value.oneCell']) HM.out.1 HM.out.2 HA.out.2.size ?_; intro v1 w1 hown1 hgrow1 _; have HRR : Hid (w1.ownsRow w.heap.size 9 1 v1 (keysF (l.take (k + 1))).length (cellsS (keysF (l.take (k + 1)))) ∧ Below w.heap.size w w1) := (by refine ⟨?_, HA.out.2.grown hgrow1 HA.out.2.size (fun g hg => (HA.out.1.lt g hg).1)⟩; rw [HN.out, List.length_append, cellsS_app]; exact hown1); clear hown1 hgrow1))
        go_roundw
        case rel => exact ⟨k + 1, by omega, by go_num, HRR.out.1, HRR.out.2⟩
        case measure => simp [intOf]; omega
    · obtain rfl : k = l.length := by omega
      rw [List.take_length] at hrow
      have HR := Lib.hid hrow
      clear hrow
      go_wp2
      go_ret
      refine ⟨_, rfl, ?_, hB⟩
      have h := HR.out
      simp only [List.take_length] at h ⊢
      exact h
end Go.Proofs.YtifhigajonafdaaGreat

/-
  The walk of schema.Copy.
-/
namespace Go.Proofs.YtifhigajonafdaaGreat
open Go.RowKit
set_option linter.unusedVariables false
set_option linter.unusedSimpArgs false

def kq3 (k : Kd) : Nm × List Nm × List Fd := (k.nm, k.of, k.fs)
def cellsBd (L : List Bd) : List Value := L.flatMap Bd.cells
def OwnKs (w : World) (base : Nat) (v : Value) (L : List Kd) : Prop := w.ownsRow base 34 3 v L.length (cellsK L) ∧ ∀ k ∈ L, w.ownsRow base 9 1 k.vo k.of.length (cellsS k.of) ∧ w.ownsRow base 163 4 k.vf k.fs.length (cellsF k.fs)
def OwnBs (w : World) (base : Nat) (v : Value) (B : List Bd) : Prop := w.ownsRow base 145 5 v B.length (cellsBd B)
theorem OwnKs.kt {w w' : World} {base : Nat} {v : Value} {L : List Kd} (h : OwnKs w base v L) (h36 : Kt 34 w w') (h9 : Kt 9 w w') (h32 : Kt 163 w w') : OwnKs w' base v L := ⟨own_kt h.1 h36, fun k hk => ⟨own_kt (h.2 k hk).1 h9, own_kt (h.2 k hk).2 h32⟩⟩
theorem infoKd : (Tryz.prog.info? 34).map (fun i => (i.zero, i.size, i.bytes)) = some (some (.agg #[.string ⟨#[]⟩, .slice none 0 0, .slice none 0 0]), 3, 64) := by kernel_rfl
theorem infoFdI : (Tryz.prog.info? 163).map (fun i => (i.zero, i.size, i.bytes)) = some (some (.agg #[.string ⟨#[]⟩, .int .i64 0, .bool false, .bool false]), 4, 32) := by kernel_rfl
theorem infoBdI : (Tryz.prog.info? 145).map (fun i => (i.zero, i.size, i.bytes)) = some (some (.agg #[.string ⟨#[]⟩, .string ⟨#[]⟩, .string ⟨#[]⟩, .int .i64 0, .int .i64 0]), 5, 64) := by kernel_rfl
theorem hasS {w : World} {v : Value} {l : List Nm} (h : IsS w v l) : HasC w v l.length (cellsS l) := by
  rcases h with ⟨ao, c, rfl, rfl, _⟩ | ⟨b, off, cap, rfl, _, _, hb, hl⟩
  · exact ⟨ao, c, rfl, .inl ⟨rfl, rfl⟩⟩
  · refine ⟨_, cap, rfl, .inr ⟨b, off, rfl, hb, fun j u hu => ?_⟩⟩
    unfold cellsS at hu
    rw [List.getElem?_map] at hu
    obtain ⟨n, h1, rfl⟩ := Option.map_eq_some_iff.1 hu
    rw [Addr.add_lit]
    exact hl j n h1
theorem fd_len (f : Fd) : f.cells.length = 4 := rfl
theorem bd_len (x : Bd) : x.cells.length = 5 := rfl
theorem hasF {w : World} {v : Value} {l : List Fd} (h : IsF w v l) : HasC w v l.length (cellsF l) := by
  rcases h with ⟨ao, c, rfl, rfl, _⟩ | ⟨b, off, cap, rfl, _, _, hb, hl⟩
  · exact ⟨ao, c, rfl, .inl ⟨rfl, rfl⟩⟩
  · refine ⟨_, cap, rfl, .inr ⟨b, off, rfl, hb, fun j u hu => ?_⟩⟩
    obtain ⟨k, x, i, hk, hi, rfl, hx⟩ := flatK_inv fd_len l hu
    obtain ⟨c0, c1, c2, c3⟩ := hl k x hk
    rw [Addr.add_lit, ← Nat.add_assoc]
    have : i = 0 ∨ i = 1 ∨ i = 2 ∨ i = 3 := by omega
    rcases this with rfl | rfl | rfl | rfl <;> (simp only [Fd.cells] at hx; simp at hx; subst hx)
    · exact c0
    · exact c1
    · exact c2
    · exact c3
theorem hasB {w : World} {v : Value} {l : List Bd} (h : IsB w v l) : HasC w v l.length (cellsBd l) := by
  rcases h with ⟨rfl, rfl⟩ | ⟨b, off, cap, rfl, _, _, hb, hl⟩
  · exact ⟨none, 0, rfl, .inl ⟨rfl, rfl⟩⟩
  · refine ⟨_, cap, rfl, .inr ⟨b, off, rfl, hb, fun j u hu => ?_⟩⟩
    obtain ⟨k, x, i, hk, hi, rfl, hx⟩ := flatK_inv bd_len l hu
    obtain ⟨c0, c1, c2, c3, c4⟩ := hl k x hk
    rw [Addr.add_lit, ← Nat.add_assoc]
    have : i = 0 ∨ i = 1 ∨ i = 2 ∨ i = 3 ∨ i = 4 := by omega
    rcases this with rfl | rfl | rfl | rfl | rfl <;> (simp only [Bd.cells] at hx; simp at hx; subst hx)
    · exact c0
    · exact c1
    · exact c2
    · exact c3
    · exact c4
theorem fd_one (L : List Fd) : ∀ u ∈ cellsF L, u.oneCell' = true := by
  intro u hu
  obtain ⟨p, _, hp⟩ := List.mem_flatMap.1 hu
  simp [Fd.cells] at hp
  rcases hp with rfl | rfl | rfl | rfl <;> rfl
theorem bd_oneI (L : List Bd) : ∀ u ∈ cellsBd L, u.oneCell' = true := by
  intro u hu
  obtain ⟨p, _, hp⟩ := List.mem_flatMap.1 hu
  simp [Bd.cells] at hp
  rcases hp with rfl | rfl | rfl | rfl | rfl <;> rfl
theorem str_one (L : List Nm) : ∀ u ∈ cellsS L, u.oneCell' = true := by
  intro u hu
  obtain ⟨p, _, rfl⟩ := List.mem_map.1 hu
  rfl
theorem clone_names (w : World) (base : Nat) (hb : base ≤ w.heap.size) {v : Value} {L : List Nm} (h : IsS w v L) (hl : L.length ≤ 1000) (ty : TypeId) :
    ∃ v' w', (Builtin.append_ #[31, 31] ty #[.slice none 0 0, v]).run Tryz.prog w = .ok v' w' ∧ (w'.ownsRow base 9 1 v' L.length (cellsS L) ∧ w.grownBy w' none) := by
  obtain ⟨i0, hi0, hz0, hz1, hz2⟩ := info_parts infoStr
  exact run_clone w base 31 ty 9 i0 _ 1 16 Tryz.underlying31 hi0 hz0 hz1 hz2 rfl (by decide) v _ _ (hasS h) (cellsS_len L) (str_one L) (by unfold maxLen; omega) (by omega) hb
theorem clone_fields (w : World) (base : Nat) (hb : base ≤ w.heap.size) {v : Value} {L : List Fd} (h : IsF w v L) (hl : L.length ≤ 1000) (ty : TypeId) :
    ∃ v' w', (Builtin.append_ #[32, 32] ty #[.slice none 0 0, v]).run Tryz.prog w = .ok v' w' ∧ (w'.ownsRow base 163 4 v' L.length (cellsF L) ∧ w.grownBy w' none) := by
  obtain ⟨i0, hi0, hz0, hz1, hz2⟩ := info_parts infoFdI
  exact run_clone w base 32 ty 163 i0 _ 4 32 Tryz.underlying32 hi0 hz0 hz1 hz2 rfl (by decide) v _ _ (hasF h) (flatK_len fd_len L) (fd_one L) (by unfold maxLen; omega) (by omega) hb
theorem clone_bonds (w : World) (base : Nat) (hb : base ≤ w.heap.size) {v : Value} {L : List Bd} (h : IsB w v L) (hl : L.length ≤ 1000) (ty : TypeId) :
    ∃ v' w', (Builtin.append_ #[23, 23] ty #[.slice none 0 0, v]).run Tryz.prog w = .ok v' w' ∧ (OwnBs w' base v' L ∧ w.grownBy w' none) := by
  obtain ⟨i0, hi0, hz0, hz1, hz2⟩ := info_parts infoBdI
  exact run_clone w base 23 ty 145 i0 _ 5 64 Tryz.underlying23 hi0 hz0 hz1 hz2 rfl (by decide) v _ _ (hasB h) (flatK_len bd_len L) (bd_oneI L) (by unfold maxLen; omega) (by omega) hb
end Go.Proofs.YtifhigajonafdaaGreat

/-
  The walk of schema.Copy.
-/
namespace Go.Proofs.YtifhigajonafdaaGreat
open Go.RowKit
set_option linter.unusedVariables false
set_option linter.unusedSimpArgs false

def CsI (W0 : World) (p : Nat) (ub : Value) (L : List Kd) (B : List Bd) (k : Nat) (wr : World) : Prop := ∃ (M : List Kd) (uk : Value), M.length = k ∧ M.map kq3 = (L.take k).map kq3 ∧ wr.heap[p]? = some (.cells #[uk, ub] 25 (0, 0)) ∧ OwnKs wr W0.heap.size uk M ∧ OwnBs wr W0.heap.size ub B ∧ Below W0.heap.size W0 wr
theorem csI_step {W0 wr W5 w7 : World} {p k : Nat} {uk ub v1 v2 v7 : Value} {L M : List Kd} {B : List Bd} {q : Kd} (hp : W0.heap.size ≤ p) (hq : L[k]? = some q) (hM : M.length = k) (hc : M.map kq3 = (L.take k).map kq3) (hX : wr.heap[p]? = some (.cells #[uk, ub] 25 (0, 0))) (hN : OwnKs wr W0.heap.size uk M) (hT : OwnBs wr W0.heap.size ub B) (hB : Below W0.heap.size W0 wr)
    (hB5 : Below wr.heap.size wr W5) (h1 : W5.ownsRow W0.heap.size 9 1 v1 q.of.length (cellsS q.of)) (h2 : W5.ownsRow W0.heap.size 163 4 v2 q.fs.length (cellsF q.fs)) (hg : (W5.alloc (.cells #[.string (bs q.nm), v1, v2] 34)).grownBy w7 uk.ownBlock) (ho : w7.ownsRow W0.heap.size 34 3 v7 (k + 1) (cellsK M ++ [.string (bs q.nm), v1, v2])) :
    (w7.cell? ⟨p, 0, none⟩ = some uk ∧ w7.frozen? ⟨p, 0, none⟩ = false) ∧ CsI W0 p ub L B (k + 1) (w7.setCell ⟨p, 0, none⟩ v7) := by
  have hBa : Below wr.heap.size wr (W5.alloc (.cells #[.string (bs q.nm), v1, v2] 34)) := on1K hB5 (b_alloc (Below.refl _ _) _) (Nat.le_refl _)
  have hNa := own_kt hN.1 (Kt.of_below hBa)
  have hXa := (hBa.block p (Array.getElem?_eq_some_iff.1 hX).1).trans hX
  have hX1 := (hg.block p (Array.getElem?_eq_some_iff.1 hXa).1 (fun e => row_apart hNa hXa (by decide) e.symm)).trans hXa
  have kk : ∀ t : TypeId, t ≠ 34 → t ≠ 25 → Kt t wr (w7.setCell ⟨p, 0, none⟩ v7) := fun t n1 n2 => ((Kt.of_below hBa).trans (.of_own hNa (Ne.symm n1) hg)).set hX1 (Ne.symm n2) _ _
  have k5 : ∀ t : TypeId, t ≠ 34 → t ≠ 25 → Kt t W5 (w7.setCell ⟨p, 0, none⟩ v7) := fun t n1 n2 => (((Kt.refl _ _).alloc _).trans (.of_own hNa (Ne.symm n1) hg)).set hX1 (Ne.symm n2) _ _
  refine ⟨⟨cell_at hX1 rfl, frz_at hX1⟩, M ++ [⟨q.nm, q.of, q.fs, v1, v2⟩], v7, by simp [hM], ?_, (heap_setCell_same w7 p 0 _ 25 _ hX1).trans rfl, ⟨?_, fun x hx => ?_⟩, own_kt hT (kk 145 (by decide) (by decide)), ?_⟩
  · have e : L.take (k + 1) = L.take k ++ [q] := by rw [List.take_add_one, hq]; rfl
    rw [e, List.map_append, List.map_append, hc]
    rfl
  · rw [List.length_append, hM, cellsK_app, show cellsK [(⟨q.nm, q.of, q.fs, v1, v2⟩ : Kd)] = [.string (bs q.nm), v1, v2] by simp [cellsK, Kd.cells]]
    exact own_set ho (row_apart ho hX1 (by decide)) _ _
  · rcases List.mem_append.1 hx with hx | hx
    · exact ⟨own_kt (hN.2 x hx).1 (kk 9 (by decide) (by decide)), own_kt (hN.2 x hx).2 (kk 163 (by decide) (by decide))⟩
    · obtain rfl : x = ⟨q.nm, q.of, q.fs, v1, v2⟩ := by simpa using hx
      exact ⟨own_kt h1 (k5 9 (by decide) (by decide)), own_kt h2 (k5 163 (by decide) (by decide))⟩
  · exact (below_grown (on1K hB hBa (Nat.le_refl _)) hg (Nat.le_trans hB.size hBa.size) (fun g hg' => (hNa.lt g hg').1)).setCell (p := ⟨p, 0, none⟩) hp _
set_option maxHeartbeats 4000000 in
set_option maxRecDepth 100000 in
theorem scopy_any {vk vb : Value} {L : List Kd} {B : List Bd} {w : World} (hK : IsK w vk L) (hP : Parts w L) (hb : IsB w vb B) (hl : L.length ≤ 1000) (hlb : B.length ≤ 1000) (hs : ∀ k ∈ L, k.of.length ≤ 1000 ∧ k.fs.length ≤ 1000) :
    Calls Tryz.prog 16 #[.agg #[vk, vb]] w fun e w' => ∃ uk ub M, e = .returned (.agg #[uk, ub]) ∧ M.map kq3 = L.map kq3 ∧ OwnKs w' w.heap.size uk M ∧ OwnBs w' w.heap.size ub B ∧ Below w.heap.size w w' := by
  obtain ⟨i0, hi0, hz0, hz1, hz2⟩ := info_parts infoKd
  obtain ⟨W0, hW0⟩ : ∃ W0, W0 = (w.alloc (.cells #[vk, vb] 25)).alloc (.cells #[.slice none 0 0, .slice none 0 0] 25) := ⟨_, rfl⟩
  have hB0 : Below w.heap.size w W0 := by rw [hW0]; exact b_alloc (b_alloc (Below.refl _ _) _) _
  have hs0 : W0.heap.size = w.heap.size + 2 := by rw [hW0]; simp
  have n0 : W0.heap[w.heap.size]? = some (.cells #[vk, vb] 25 (0, 0)) := by rw [hW0]; exact (heap_alloc_old _ _ (by simp)).trans (heap_alloc_new w _)
  have n1 : W0.heap[w.heap.size + 1]? = some (.cells #[.slice none 0 0, .slice none 0 0] 25 (0, 0)) := by
    have := heap_alloc_new (w.alloc (.cells #[vk, vb] 25)) (.cells #[.slice none 0 0, .slice none 0 0] 25)
    rw [World.size_alloc] at this; rw [hW0]; exact this
  have clB := fun (ty : TypeId) => clone_bonds W0 W0.heap.size (Nat.le_refl _) (hb.on hB0) hlb ty
  obtain ⟨ak, ck, evk, hVK⟩ : ∃ ak ck, vk = .slice ak L.length ck ∧ ∀ k q, L[k]? = some q → ∃ b off, ak = some ⟨b, off, none⟩ ∧ b < w.heap.size ∧ w.cell? ⟨b, off + k * 3, none⟩ = some (.string (bs q.nm)) ∧ w.cell? ⟨b, off + k * 3 + 1, none⟩ = some q.vo ∧ w.cell? ⟨b, off + k * 3 + 2, none⟩ = some q.vf := by
    rcases hK with ⟨rfl, rfl⟩ | ⟨b, off, cap, rfl, _, _, hb, hl⟩
    · exact ⟨none, 0, rfl, fun k q h => by cases h⟩
    · exact ⟨_, cap, rfl, fun k q h => ⟨b, off, rfl, hb, hl k q h⟩⟩
  obtain ⟨ab, cb, evb⟩ : ∃ ab cb, vb = .slice ab B.length cb := by
    rcases hb with ⟨rfl, rfl⟩ | ⟨b, off, cap, rfl, _⟩
    · exact ⟨none, 0, rfl⟩
    · exact ⟨_, _, rfl⟩
  subst evk evb
  have HH : Hid (Below w.heap.size w W0 ∧ W0.heap.size = w.heap.size + 2 ∧ W0.heap[w.heap.size]? = some (.cells #[.slice ak L.length ck, .slice ab B.length cb] 25 (0, 0)) ∧ W0.heap[w.heap.size + 1]? = some (.cells #[.slice none 0 0, .slice none 0 0] 25 (0, 0)) ∧ Parts w L) := ⟨hB0, hs0, n0, n1, hP⟩
  have HVK := Lib.hid hVK
  have HSm := Lib.hid hs
  have c1 : W0.cell? ⟨w.heap.size, 1, none⟩ = some (.slice ab B.length cb) := cell_at n0 rfl
  clear hB0 n0 n1 hs0 hK hP hb hVK hs
  go_enter Tryz.func16, Tryz.ntmps16
  go_upto_region 1 with fail
  rw [← hW0]
  clear hW0
  go_wp2_with (first | (at_builtin; refine wpList_append_E rfl _ _ 23 rfl _ _ rfl rfl (clB _) ?_; rintro v1 w1 ⟨hown, hgrow⟩; refine Hid.out ?_))
  refine Lib.hid ?_
  obtain ⟨a2, p2, rfl⟩ := own_slice hown
  have hb1 := grown_below hgrow
  obtain ⟨Wc, hWc⟩ : ∃ Wc, Wc = w1.alloc (.cells #[.slice none 0 0, .slice a2 B.length p2] 25) := ⟨_, rfl⟩
  have nc : Wc.heap[w1.heap.size]? = some (.cells #[.slice none 0 0, .slice a2 B.length p2] 25 (0, 0)) := by rw [hWc]; exact heap_alloc_new w1 _
  have hBc : Below W0.heap.size W0 Wc := by rw [hWc]; exact b_alloc hb1 _
  have HI0 : Hid (CsI W0 w1.heap.size (.slice a2 B.length p2) L B 0 Wc ∧ W0.heap.size ≤ w1.heap.size) := ⟨⟨[], .slice none 0 0, rfl, rfl, nc, ⟨World.ownsRow_nil _ _ _ _, fun n hn => by cases hn⟩, by rw [hWc]; exact World.ownsRow.alloc hown _, hBc⟩, hb1.size⟩
  have c0 : Wc.cell? ⟨w.heap.size, 0, none⟩ = some (.slice ak L.length ck) := cell_at ((hBc.block _ (by have := HH.out.2.1; omega)).trans HH.out.2.2.1) rfl
  have HWc := Lib.hid hWc
  clear hown hgrow hb1 nc hBc hWc clB c1
  go_upto_region 2 with fail
  rw [← HWc.out]
  go_wp2
  go_loopw [13] (fun i wr => ∃ k : Nat, k ≤ L.length ∧ i = .int .i64 k ∧ CsI W0 w1.heap.size (.slice a2 B.length p2) L B k wr) (fun i _ => L.length - (intOf i).toNat)
  case atStart => exact ⟨0, Nat.zero_le _, rfl, HI0.out.1⟩
  case round =>
    obtain ⟨k, hk, rfl, hC⟩ := hrel
    obtain ⟨M, vm, hM, hcN, hX, hNs, hTs, hB⟩ := hC
    obtain ⟨a1, p1, e1⟩ := own_slice hNs.1
    rw [hM] at e1
    subst e1
    by_cases hlt : k < L.length
    · obtain ⟨q, hq⟩ : ∃ q, L[k]? = some q := ⟨L[k], by simp [hlt]⟩
      have hbw := on1K HH.out.1 hB (Nat.le_refl _)
      obtain ⟨b, off, rfl, hbl, d0, d1, d2⟩ := HVK.out k q hq
      have d0 := (hbw.cell (p := ⟨b, off + k * 3, none⟩) hbl).trans d0
      have d1 := (hbw.cell (p := ⟨b, off + k * 3 + 1, none⟩) hbl).trans d1
      have d2 := (hbw.cell (p := ⟨b, off + k * 3 + 2, none⟩) hbl).trans d2
      obtain ⟨hSo, hFo⟩ := HH.out.2.2.2.2 q (List.mem_of_getElem? hq)
      obtain ⟨ms, mf⟩ := HSm.out q (List.mem_of_getElem? hq)
      obtain ⟨ao, lo, co, evo⟩ : ∃ a l c, q.vo = .slice a l c := by
        rcases hSo with ⟨a, c, e, _⟩ | ⟨_, _, c, e, _⟩
        · exact ⟨_, _, _, e⟩
        · exact ⟨_, _, _, e⟩
      obtain ⟨af, lf, cf, evf⟩ : ∃ a l c, q.vf = .slice a l c := by
        rcases hFo with ⟨a, c, e, _⟩ | ⟨_, _, c, e, _⟩
        · exact ⟨_, _, _, e⟩
        · exact ⟨_, _, _, e⟩
      have HQ := Lib.hid hq
      obtain ⟨nm, of, fs, vo, vf⟩ := q
      simp only at evo evf d0 d1 d2 hSo hFo ms mf
      subst evo evf
      obtain ⟨W1, hW1⟩ : ∃ W1, W1 = wr.alloc (.cells #[.string (bs nm), .slice ao lo co, .slice af lf cf] 34) := ⟨_, rfl⟩
      have hB1 : Below wr.heap.size wr W1 := by rw [hW1]; exact b_alloc (Below.refl _ _) _
      have nn : W1.heap[wr.heap.size]? = some (.cells #[.string (bs nm), .slice ao lo co, .slice af lf cf] 34 (0, 0)) := by rw [hW1]; exact heap_alloc_new wr _
      have clS := fun (ty : TypeId) => clone_names W1 W0.heap.size (Nat.le_trans hB.size hB1.size) (hSo.on (on1K hbw hB1 (Nat.le_refl _))) ms ty
      have e1 : W1.cell? ⟨wr.heap.size, 1, none⟩ = some (.slice ao lo co) := cell_at nn rfl
      have HA : Hid (M.length = k ∧ M.map kq3 = (L.take k).map kq3 ∧ wr.heap[w1.heap.size]? = some (.cells #[.slice a1 k p1, .slice a2 B.length p2] 25 (0, 0)) ∧ OwnKs wr W0.heap.size (.slice a1 k p1) M ∧ OwnBs wr W0.heap.size (.slice a2 B.length p2) B ∧ Below W0.heap.size W0 wr) := ⟨hM, hcN, hX, hNs, hTs, hB⟩
      have HB1 : Hid (Below wr.heap.size wr W1 ∧ W1.heap[wr.heap.size]? = some (.cells #[.string (bs nm), .slice ao lo co, .slice af lf cf] 34 (0, 0)) ∧ Below w.heap.size w wr ∧ IsF w (.slice af lf cf) fs) := ⟨hB1, nn, hbw, hFo⟩
      have HW1 := Lib.hid hW1
      have hnb : ¬ b = wr.heap.size := by have := hbw.size; omega
      clear hM hcN hX hNs hTs hB hbw hB1 nn hq hW1 hbl hSo hFo
      go_upto_region 5 with fail
      rw [← HW1.out]
      go_wp2_with (first | (at_builtin; refine wpList_append_E rfl _ _ 31 rfl _ _ rfl rfl (clS _) ?_; rintro v1 w2 ⟨ho1, hg1⟩; refine Hid.out ?_))
      refine Lib.hid ?_
      obtain ⟨asn, cs', rfl⟩ := own_slice ho1
      have hb2 := grown_below hg1
      have n2 := (hb2.block _ (Array.getElem?_eq_some_iff.1 HB1.out.2.1).1).trans HB1.out.2.1
      have f1 : w2.cell? ⟨wr.heap.size, 1, none⟩ = some (.slice ao lo co) := cell_at n2 rfl
      have f1' : w2.frozen? ⟨wr.heap.size, 1, none⟩ = false := frz_at n2
      obtain ⟨W3, hW3⟩ : ∃ W3, W3 = w2.setCell ⟨wr.heap.size, 1, none⟩ (.slice asn of.length cs') := ⟨_, rfl⟩
      have n3 : W3.heap[wr.heap.size]? = some (.cells #[.string (bs nm), .slice asn of.length cs', .slice af lf cf] 34 (0, 0)) := by rw [hW3]; exact (heap_setCell_same w2 _ 1 _ 34 _ n2).trans rfl
      have hB3 : Below wr.heap.size wr W3 := by rw [hW3]; exact (on1K HB1.out.1 hb2 (Nat.le_refl _)).setCell (p := ⟨wr.heap.size, 1, none⟩) (Nat.le_refl _) _
      have ho3 : W3.ownsRow W0.heap.size 9 1 (.slice asn of.length cs') of.length (cellsS of) := by rw [hW3]; exact own_set ho1 (row_apart ho1 n2 (by decide)) _ _
      have clF := fun (ty : TypeId) => clone_fields W3 W0.heap.size (Nat.le_trans HA.out.2.2.2.2.2.size hB3.size) (HB1.out.2.2.2.on (on1K HB1.out.2.2.1 hB3 (Nat.le_refl _))) mf ty
      have e3 : W3.cell? ⟨wr.heap.size, 2, none⟩ = some (.slice af lf cf) := cell_at n3 rfl
      have HW3 := Lib.hid hW3
      have H3 : Hid (W3.heap[wr.heap.size]? = some (.cells #[.string (bs nm), .slice asn of.length cs', .slice af lf cf] 34 (0, 0)) ∧ Below wr.heap.size wr W3 ∧ W3.ownsRow W0.heap.size 9 1 (.slice asn of.length cs') of.length (cellsS of)) := ⟨n3, hB3, ho3⟩
      clear ho1 hg1 hb2 n2 hW3 n3 hB3 ho3 clS
      go_upto_region 6 with fail
      rw [← HW3.out]
      clear f1 f1' e1
      go_wp2_with (first | (at_builtin; refine wpList_append_E rfl _ _ 32 rfl _ _ rfl rfl (clF _) ?_; rintro v2 w4 ⟨ho4, hg4⟩; refine Hid.out ?_))
      refine Lib.hid ?_
      obtain ⟨ag, cg, rfl⟩ := own_slice ho4
      have hb4 := grown_below hg4
      have n4 := (hb4.block _ (Array.getElem?_eq_some_iff.1 H3.out.1).1).trans H3.out.1
      have f1 : w4.cell? ⟨wr.heap.size, 2, none⟩ = some (.slice af lf cf) := cell_at n4 rfl
      have f1' : w4.frozen? ⟨wr.heap.size, 2, none⟩ = false := frz_at n4
      obtain ⟨W5, hW5⟩ : ∃ W5, W5 = w4.setCell ⟨wr.heap.size, 2, none⟩ (.slice ag fs.length cg) := ⟨_, rfl⟩
      have n5 : W5.heap[wr.heap.size]? = some (.cells #[.string (bs nm), .slice asn of.length cs', .slice ag fs.length cg] 34 (0, 0)) := by rw [hW5]; exact (heap_setCell_same w4 _ 2 _ 34 _ n4).trans rfl
      have hB5 : Below wr.heap.size wr W5 := by rw [hW5]; exact (on1K H3.out.2.1 hb4 (Nat.le_refl _)).setCell (p := ⟨wr.heap.size, 2, none⟩) (Nat.le_refl _) _
      have ho5 : W5.ownsRow W0.heap.size 163 4 (.slice ag fs.length cg) fs.length (cellsF fs) := by rw [hW5]; exact own_set ho4 (row_apart ho4 n4 (by decide)) _ _
      have ho5' : W5.ownsRow W0.heap.size 9 1 (.slice asn of.length cs') of.length (cellsS of) := by rw [hW5]; exact own_kt H3.out.2.2 ((Kt.of_below hb4).set n4 (by decide) _ _)
      have x0 : W5.cell? ⟨w1.heap.size, 0, none⟩ = some (.slice a1 k p1) := (hB5.cell (p := ⟨w1.heap.size, 0, none⟩) (Array.getElem?_eq_some_iff.1 HA.out.2.2.1).1).trans (cell_at HA.out.2.2.1 rfl)
      have g0 : W5.cell? ⟨wr.heap.size, 0, none⟩ = some (.string (bs nm)) := cell_at n5 rfl
      have g1 : W5.cell? ⟨wr.heap.size, 1, none⟩ = some (.slice asn of.length cs') := cell_at n5 rfl
      have g2 : W5.cell? ⟨wr.heap.size, 2, none⟩ = some (.slice ag fs.length cg) := cell_at n5 rfl
      have HO : Hid ((W5.alloc (.cells #[.string (bs nm), .slice asn of.length cs', .slice ag fs.length cg] 34)).ownsRow W0.heap.size 34 3 (.slice a1 k p1) k (cellsK M) ∧ W0.heap.size ≤ (W5.alloc (.cells #[.string (bs nm), .slice asn of.length cs', .slice ag fs.length cg] 34)).heap.size) := by
        have hBa := on1K hB5 (b_alloc (Below.refl _ W5) (.cells #[.string (bs nm), .slice asn of.length cs', .slice ag fs.length cg] 34)) (Nat.le_refl _)
        have := own_kt HA.out.2.2.2.1.1 (Kt.of_below (t := 34) hBa)
        rw [HA.out.1] at this
        exact ⟨this, Nat.le_trans HA.out.2.2.2.2.2.size hBa.size⟩
      have HSt : Hid (∀ w7 v7, (W5.alloc (.cells #[.string (bs nm), .slice asn of.length cs', .slice ag fs.length cg] 34)).grownBy w7 (Value.slice a1 k p1).ownBlock → w7.ownsRow W0.heap.size 34 3 v7 (k + 1) (cellsK M ++ [.string (bs nm), .slice asn of.length cs', .slice ag fs.length cg]) → (w7.cell? ⟨w1.heap.size, 0, none⟩ = some (.slice a1 k p1) ∧ w7.frozen? ⟨w1.heap.size, 0, none⟩ = false) ∧ CsI W0 w1.heap.size (.slice a2 B.length p2) L B (k + 1) (w7.setCell ⟨w1.heap.size, 0, none⟩ v7)) := fun w7 v7 q1 q2 => csI_step HI0.out.2 HQ.out HA.out.1 HA.out.2.1 HA.out.2.2.1 HA.out.2.2.2.1 HA.out.2.2.2.2.1 HA.out.2.2.2.2.2 hB5 ho5' ho5 q1 q2
      have HM : Hid (k + 1 ≤ maxLen ∧ (k + 1) * 64 ≤ 140737488355328) := by unfold maxLen; exact ⟨by omega, by omega⟩
      have HW5 := Lib.hid hW5
      clear ho4 hg4 hb4 n4 hW5 n5 hB5 ho5 ho5' clF e3
      go_upto_region 7 with fail
      rw [← HW5.out]
      clear f1 f1'
      go_wp2_with (first | (at_builtin; refine wpList_append_own _ rfl (.tmp 26) (.tmp 28) 22 rfl W0.heap.size 34 i0 _ 3 64 Tryz.underlying22 hi0 hz0 hz1 hz2 rfl (by decide) (.slice a1 k p1) k (cellsK M) rfl HO.out.1 ⟨W5.heap.size, 0, none⟩ 1 1 [.string (bs nm), .slice asn of.length cs', .slice ag fs.length cg] rfl rfl (new_at _ _ _) (by simp [Value.oneCell']) HM.out.1 HM.out.2 HO.out.2 ?_; intro v7 w7 hown7 hgrow7 _; obtain ⟨⟨z0, z1⟩, hcs⟩ := HSt.out w7 v7 hgrow7 hown7; obtain ⟨a3, c3, rfl⟩ := own_slice hown7; have HCs := Lib.hid hcs; clear hcs hown7 hgrow7))
      go_roundw
      case rel => exact ⟨k + 1, by omega, by go_num, HCs.out⟩
      case measure => simp [intOf]; omega
    · obtain rfl : k = L.length := by omega
      rw [List.take_length] at hcN
      have hr1 := (hB.block _ (by have := HH.out.2.1; omega)).trans HH.out.2.2.2.1
      have HF : Hid (M.map kq3 = L.map kq3 ∧ OwnKs wr W0.heap.size (.slice a1 L.length p1) M ∧ OwnBs wr W0.heap.size (.slice a2 B.length p2) B ∧ Below w.heap.size w wr ∧ Ty wr (w.heap.size + 1) 25) := ⟨hcN, hNs, hTs, on1K HH.out.1 hB (Nat.le_refl _), _, hr1⟩
      have e0 : wr.cell? ⟨w1.heap.size, 0, none⟩ = some (.slice a1 L.length p1) := cell_at hX rfl
      have e1 : wr.cell? ⟨w1.heap.size, 1, none⟩ = some (.slice a2 B.length p2) := cell_at hX rfl
      have r0 : wr.cell? ⟨w.heap.size + 1, 0, none⟩ = some (.slice none 0 0) := cell_at hr1 rfl
      have r1 : wr.cell? ⟨w.heap.size + 1, 1, none⟩ = some (.slice none 0 0) := cell_at hr1 rfl
      have s0 : wr.frozen? ⟨w.heap.size + 1, 0, none⟩ = false := frz_at hr1
      have s1 : wr.frozen? ⟨w.heap.size + 1, 1, none⟩ = false := frz_at hr1
      have t1 : ((wr.setCell ⟨w.heap.size + 1, 0, none⟩ (.slice a1 L.length p1)).setCell ⟨w.heap.size + 1, 1, none⟩ (.slice a2 B.length p2)).heap[w.heap.size + 1]? = some (.cells #[.slice a1 L.length p1, .slice a2 B.length p2] 25 (0, 0)) := heap_setCell_same _ _ 1 _ 25 _ (heap_setCell_same wr _ 0 _ 25 _ hr1)
      have HT : Hid (((wr.setCell ⟨w.heap.size + 1, 0, none⟩ (.slice a1 L.length p1)).setCell ⟨w.heap.size + 1, 1, none⟩ (.slice a2 B.length p2)).cell? ⟨w.heap.size + 1, 0, none⟩ = some (.slice a1 L.length p1) ∧ ((wr.setCell ⟨w.heap.size + 1, 0, none⟩ (.slice a1 L.length p1)).setCell ⟨w.heap.size + 1, 1, none⟩ (.slice a2 B.length p2)).cell? ⟨w.heap.size + 1, 1, none⟩ = some (.slice a2 B.length p2)) := ⟨cell_at t1 rfl, cell_at t1 rfl⟩
      clear hcN hX hNs hTs hB hr1 t1 hk
      go_wp2
      obtain ⟨f1, f2, f3, f4, f5⟩ := HF.out
      obtain ⟨t0, t1⟩ := HT.out
      have hs0' : w.heap.size ≤ W0.heap.size := HH.out.1.size
      have kk : ∀ t : TypeId, (25 : TypeId) ≠ t → Kt t wr ((wr.setCell ⟨w.heap.size + 1, 0, none⟩ (.slice a1 L.length p1)).setCell ⟨w.heap.size + 1, 1, none⟩ (.slice a2 B.length p2)) := fun t ht => ((Kt.refl _ _).ty f5 ht _ _).ty (f5.set _ _ _) ht _ _
      refine bodyPost_ret (v := .agg #[.slice a1 L.length p1, .slice a2 B.length p2]) ?_ rfl ⟨_, _, M, rfl, f1, ⟨?_, fun q hq => ⟨?_, ?_⟩⟩, ?_, ?_⟩
      · simp [results, Tryz.results16, go_sem, t0, t1]
      · exact own_base (own_kt f2.1 (kk 34 (by decide))) hs0'
      · exact own_base (own_kt (f2.2 q hq).1 (kk 9 (by decide))) hs0'
      · exact own_base (own_kt (f2.2 q hq).2 (kk 163 (by decide))) hs0'
      · exact own_base (own_kt f3 (kk 145 (by decide))) hs0'
      · exact (f4.setCell (by show _ ≤ w.heap.size + 1; omega) _).setCell (by show _ ≤ w.heap.size + 1; omega) _
end Go.Proofs.YtifhigajonafdaaGreat
