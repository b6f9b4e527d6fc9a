/-
  What package guard tells, in plain words; the walks of guard.Check and guard.May.
-/
import Derived.Test.YtikjmingkadjcaaGreatDoorM32
import Derived.Test.YtikjmingkadjcaaGreatDoorM20
import Derived.Test.YtikjmingkadjcaaGreatDoorM05
import Derived.Test.YtikjmingkadjcaaGreatDoorM09
import Derived.Test.YtikjmingkadjcaaGreatDoorM21
namespace Go.Proofs.YtikjmingkadjcaaGreatDoor
open Go.RowKit
set_option linter.unusedVariables false
set_option linter.unusedSimpArgs false

theorem nErr_sz {b : ByteArray} (h : nErr b.data.toList = 0) : b.size ≤ maxLen := by
  have := nErr_short h
  rw [size_len]
  unfold maxLen
  omega
theorem gErr_sz {M : List Nd} {T : List Te} (h : gErr M T = 0) : SzN M ∧ SzT T := by
  obtain ⟨⟨_, _, h1⟩, ⟨_, _, h2⟩⟩ := (gErr_iff M T).1 h
  refine ⟨fun n hn => ?_, fun t ht => ?_⟩
  case refine_2 =>
    have ho := h2 t ht
    unfold teE at ho
    split at ho
    · rename_i h3; exact nErr_sz h3
    · rename_i h3; exact absurd ho h3
  obtain ⟨_, e2, e3⟩ := (ndE_iff n).1 (h1 n hn)
  have := rErr_le e3
  exact ⟨nErr_sz e2, sz_of e3, by unfold maxLen; omega⟩
theorem allF_c (L : List Kd) (B : List Bd) (N : List Nd) (T : List Te) : allF L B (cN N) T = allF L B N T := by
  unfold allF nodeF endO cN
  rw [List.foldl_map, List.foldl_map]
  rfl
end Go.Proofs.YtikjmingkadjcaaGreatDoor

/-
  What ops do not touch stands behind them as it stood: nodes, ties with an end that is not touched, the kinds of nodes that do not go.
-/
namespace Go.Proofs.YtikjmingkadjcaaGreatDoor
set_option linter.unusedVariables false
set_option linter.unusedSimpArgs false

section
variable {α : Type}
end

def oth (id : Int) (t : Te) : Option Int := if t.fr = id then some t.tt else if t.tt = id then some t.fr else none
def endsOf (T : List Te) (id : Int) : List Int := T.filterMap (oth id)
def touB (T : List Te) (o : Opx) : List Int := if o.wh = 5 ∨ o.wh = 6 then [o.te.fr, o.te.tt] else if o.wh = 2 then endsOf T o.nd.id ++ [o.nd.id] else [o.nd.id]
def touA (T : List Te) (O : List Opx) : List Int := O.flatMap (touB T)
theorem fnd_at {id : Int} {M : List Nd} (h : fndN id M = true) : ∃ g, M[loN id M]? = some g ∧ g.id = id := by
  unfold fndN at h
  cases e : M[loN id M]? with
  | none => rw [e] at h; cases h
  | some g => rw [e] at h; exact ⟨g, rfl, by simpa using h⟩
theorem opE_cases {o : Opx} {M : List Nd} {T : List Te} (e : opE o M T = 0) :
    (o.wh = 1 ∧ opM o M T = newM o.nd M ∧ opT o M T = T) ∨ (o.wh = 2 ∧ fndN o.nd.id M = true ∧ opM o M T = M.eraseIdx (loN o.nd.id M) ∧ opT o M T = T.filter (keepT o.nd.id)) ∨
    ((o.wh = 3 ∨ o.wh = 4) ∧ fndN o.nd.id M = true ∧ (∃ r, opM o M T = putR o.nd.id M r) ∧ opT o M T = T) ∨ (o.wh = 5 ∧ opM o M T = M ∧ opT o M T = bindT o.te T) ∨ (o.wh = 6 ∧ fndT o.te T = true ∧ opM o M T = M ∧ opT o M T = T.eraseIdx (loT o.te T)) := by
  unfold opE at e
  unfold opM opT
  by_cases h1 : o.wh = 1
  · rw [if_pos h1, if_neg (by omega), if_neg (by omega), if_neg (by omega)]
    exact .inl ⟨h1, rfl, rfl⟩
  by_cases h2 : o.wh = 2
  · rw [if_neg h1, if_pos h2] at e
    rw [if_neg h1, if_pos h2, if_pos h2]
    refine .inr (.inl ⟨h2, ?_, rfl, rfl⟩)
    unfold goneE at e
    by_cases hf : fndN o.nd.id M = true
    · exact hf
    · rw [if_neg hf] at e; cases e
  by_cases h3 : o.wh = 3
  · rw [if_neg h1, if_neg h2, if_pos h3] at e
    rw [if_neg h1, if_neg h2, if_pos h3, if_neg h2, if_neg (by omega), if_neg (by omega)]
    refine .inr (.inr (.inl ⟨.inl h3, ?_, ⟨_, rfl⟩, rfl⟩))
    by_cases hf : fndN o.nd.id M = true
    · exact hf
    · rw [if_neg hf] at e; cases e
  by_cases h4 : o.wh = 4
  · rw [if_neg h1, if_neg h2, if_neg h3, if_pos h4] at e
    rw [if_neg h1, if_neg h2, if_neg h3, if_pos h4, if_neg h2, if_neg (by omega), if_neg (by omega)]
    refine .inr (.inr (.inl ⟨.inr h4, ?_, ⟨_, rfl⟩, rfl⟩))
    by_cases hf : fndN o.nd.id M = true
    · exact hf
    · rw [if_neg hf] at e; cases e
  by_cases h5 : o.wh = 5
  · rw [if_neg h1, if_neg h2, if_neg h3, if_neg h4, if_neg h2, if_pos h5]
    exact .inr (.inr (.inr (.inl ⟨h5, rfl, rfl⟩)))
  by_cases h6 : o.wh = 6
  · rw [if_neg h1, if_neg h2, if_neg h3, if_neg h4, if_neg h5, if_pos h6] at e
    rw [if_neg h1, if_neg h2, if_neg h3, if_neg h4, if_neg h2, if_neg h5, if_pos h6]
    refine .inr (.inr (.inr (.inr ⟨h6, ?_, rfl, rfl⟩)))
    by_cases hf : fndT o.te T = true
    · exact hf
    · rw [if_neg hf] at e; cases e
  rw [if_neg h1, if_neg h2, if_neg h3, if_neg h4, if_neg h5, if_neg h6] at e
  cases e

structure Un (T0 : List Te) (X G : List Int) (M0 M : List Nd) (U : List Te) : Prop where
  nd : ∀ x : Nd, x.id ∉ X → (x ∈ M ↔ x ∈ M0)
  te : ∀ t : Te, (t.fr ∉ X ∨ t.tt ∉ X) → (t ∈ U ↔ t ∈ T0)
  kd : ∀ x ∈ M0, x.id ∉ G → ∃ y ∈ M, y.id = x.id ∧ y.kd = x.kd
end Go.Proofs.YtikjmingkadjcaaGreatDoor

/-
  The faults behind ops: where the graph ahead of them conforms, a fault of a node that is not touched is that of a key that another one has.
-/
namespace Go.Proofs.YtikjmingkadjcaaGreatDoor
set_option linter.unusedVariables false
set_option linter.unusedSimpArgs false

/-! ### Which faults there may be -/
/-! ### What conforms has none of them -/
/-! ### Counts and ends -/
end Go.Proofs.YtikjmingkadjcaaGreatDoor

/-
  The walk of guard.Check where it tells an error; the walk of guard.May.
-/
namespace Go.Proofs.YtikjmingkadjcaaGreatDoor
open Go.RowKit
set_option linter.unusedVariables false
set_option linter.unusedSimpArgs false
end Go.Proofs.YtikjmingkadjcaaGreatDoor

/-
  The walk of index.keyNames.
-/
namespace Go.Proofs.YtikjmingkadjcaaGreatDoor
open Go.RowKit
set_option linter.unusedVariables false
set_option linter.unusedSimpArgs false

def keysF (l : List Fd) : List Nm := (l.filter Fd.key).map Fd.nm
theorem keysF_yes {l : List Fd} {k : Nat} {f : Fd} (h : l[k]? = some f) (hk : f.key = true) : keysF (l.take (k + 1)) = keysF (l.take k) ++ [f.nm] := by
  unfold keysF
  rw [List.take_add_one, h, List.filter_append, List.map_append]
  simp [hk]
theorem keysF_no {l : List Fd} {k : Nat} {f : Fd} (h : l[k]? = some f) (hk : f.key = false) : keysF (l.take (k + 1)) = keysF (l.take k) := by
  unfold keysF
  rw [List.take_add_one, h, List.filter_append, List.map_append]
  simp [hk]
theorem keysF_len (l : List Fd) : (keysF l).length ≤ l.length := by
  unfold keysF
  rw [List.length_map]
  exact List.length_filter_le _ _
theorem isF_atI {w : World} {v : Value} {l : List Fd} (h : IsF w v l) : ∃ ao c, v = .slice ao l.length c ∧ ∀ j f, l[j]? = some f → ∃ b o, ao = some ⟨b, o, none⟩ ∧ b < w.heap.size ∧ w.cell? ⟨b, o + j * 4, none⟩ = some (.string (bs f.nm)) ∧ w.cell? ⟨b, o + j * 4 + 1, none⟩ = some (.int .i64 f.t) ∧ w.cell? ⟨b, o + j * 4 + 2, none⟩ = some (.bool f.must) ∧ w.cell? ⟨b, o + j * 4 + 3, none⟩ = some (.bool f.key) := by
  rcases h with ⟨ao, c, rfl, rfl, _⟩ | ⟨b, off, cap, rfl, hc, hm, hb, hl⟩
  · exact ⟨ao, c, rfl, fun j g hg => by simp at hg⟩
  · exact ⟨_, _, rfl, fun j g hg => ⟨b, off, rfl, hb, hl j g hg⟩⟩
theorem infoStr : (Tryz.prog.info? 9).map (fun i => (i.zero, i.size, i.bytes)) = some (some (.string ⟨#[]⟩), 1, 16) := by kernel_rfl
set_option maxHeartbeats 4000000 in
set_option maxRecDepth 100000 in
theorem keyNames_any {v : Value} {l : List Fd} {w : World} (h : IsF w v l) (hn : l.length ≤ 1000) :
    Calls Tryz.prog 51 #[v] w fun e w' => ∃ u, e = .returned u ∧ w'.ownsRow w.heap.size 9 1 u (keysF l).length (cellsS (keysF l)) ∧ Below w.heap.size w w' := by
  obtain ⟨ao, c, rfl, hv⟩ := isF_atI h
  obtain ⟨i9, hi9, hz90, hz91, hz92⟩ := info_parts infoStr
  have HV := Lib.hid hv
  clear h hv
  go_enter Tryz.func51, Tryz.ntmps51
  go_wp2
  go_loopw [3, 8] (fun s3 s8 wr => ∃ k : Nat, k ≤ l.length ∧ s8 = .int .i64 k ∧ wr.ownsRow w.heap.size 9 1 s3 (keysF (l.take k)).length (cellsS (keysF (l.take k))) ∧ Below w.heap.size w wr) (fun _ s8 _ => l.length - (intOf s8).toNat)
  case atStart => exact ⟨0, Nat.zero_le _, rfl, World.ownsRow_nil _ _ _ _, Below.refl _ _⟩
  case round =>
    obtain ⟨k, hk, rfl, hrow, hB⟩ := hrel
    obtain ⟨a3, c3, e3⟩ := own_sliceC hrow
    subst e3
    by_cases hlt : k < l.length
    · obtain ⟨f, hf⟩ : ∃ f, l[k]? = some f := ⟨l[k], by simp [hlt]⟩
      obtain ⟨b, o, rfl, hbl, d0, d1, d2, d3⟩ := HV.out k f hf
      have d0 := (hB.cell (p := ⟨b, o + k * 4, none⟩) hbl).trans d0
      have d1 := (hB.cell (p := ⟨b, o + k * 4 + 1, none⟩) hbl).trans d1
      have d2 := (hB.cell (p := ⟨b, o + k * 4 + 2, none⟩) hbl).trans d2
      have d3 := (hB.cell (p := ⟨b, o + k * 4 + 3, none⟩) hbl).trans d3
      have HF := Lib.hid hf
      have hkl : Hid ((keysF (l.take k)).length ≤ 1000) := by have := keysF_len (l.take k); rw [List.length_take] at this; show _ ≤ _; omega
      obtain ⟨nm, t, mu, ky⟩ := f
      simp only at d0 d1 d2 d3
      have hBa : Below wr.heap.size wr (wr.alloc (.cells #[.string (bs nm), .int .i64 t, .bool mu, .bool ky] 101)) := (Below.refl _ _).alloc (Nat.le_refl _) _
      have HR : Hid ((wr.alloc (.cells #[.string (bs nm), .int .i64 t, .bool mu, .bool ky] 101)).ownsRow w.heap.size 9 1 (.slice a3 (keysF (l.take k)).length c3) (keysF (l.take k)).length (cellsS (keysF (l.take k))) ∧ Below w.heap.size w (wr.alloc (.cells #[.string (bs nm), .int .i64 t, .bool mu, .bool ky] 101))) := ⟨hrow.alloc _, hB.trans (hBa.mono hB.size)⟩
      have hbn : ¬ b = wr.heap.size := by have := hB.size; omega
      clear hrow hf hbl hBa
      cases ky
      · have HN := Lib.hid (keysF_no HF.out rfl)
        clear hB
        go_wp2
        go_roundw
        case rel => exact ⟨k + 1, by omega, by go_num, by rw [HN.out]; exact HR.out.1, HR.out.2⟩
        case measure => simp [intOf]; omega
      · have HN := Lib.hid (keysF_yes HF.out rfl)
        have HA : Hid (((wr.alloc (.cells #[.string (bs nm), .int .i64 t, .bool mu, .bool true] 101)).alloc (.cells #[.string (bs nm)] 9)).ownsRow w.heap.size 9 1 (.slice a3 (keysF (l.take k)).length c3) (keysF (l.take k)).length (cellsS (keysF (l.take k))) ∧ Below w.heap.size w ((wr.alloc (.cells #[.string (bs nm), .int .i64 t, .bool mu, .bool true] 101)).alloc (.cells #[.string (bs nm)] 9))) := ⟨HR.out.1.alloc _, HR.out.2.alloc HR.out.2.size _⟩
        have HM : Hid ((keysF (l.take k)).length + 1 ≤ maxLen ∧ ((keysF (l.take k)).length + 1) * 16 ≤ 140737488355328) := by have := hkl.out; unfold maxLen; exact ⟨by omega, by omega⟩
        have hna : ∀ j u, [Value.string (bs nm)][j]? = some u → ((wr.alloc (.cells #[.string (bs nm), .int .i64 t, .bool mu, .bool true] 101)).alloc (.cells #[.string (bs nm)] 9)).cell? ((⟨wr.heap.size + 1, 0, none⟩ : Addr).add j) = some u := by
          have := new_atC (wr.alloc (.cells #[.string (bs nm), .int .i64 t, .bool mu, .bool true] 101)) [.string (bs nm)] 9
          rw [World.size_alloc] at this
          exact this
        have HNA := Lib.hid hna
        clear hna hB
        go_wp2_with (first | (at_builtin; refine wpList_append_own _ rfl (.tmp 14) (.tmp 17) 31 rfl w.heap.size 9 i9 _ 1 16 Tryz.underlying31 hi9 hz90 hz91 hz92 rfl (by decide) (.slice a3 (keysF (l.take k)).length c3) (keysF (l.take k)).length (cellsS (keysF (l.take k))) rfl HA.out.1 ⟨wr.heap.size + 1, 0, none⟩ 1 1 [.string (bs nm)] rfl rfl HNA.out (by simp [Value.oneCell']) HM.out.1 HM.out.2 HA.out.2.size ?_; intro v1 w1 hown1 hgrow1 _; have HRR : Hid (w1.ownsRow w.heap.size 9 1 v1 (keysF (l.take (k + 1))).length (cellsS (keysF (l.take (k + 1)))) ∧ Below w.heap.size w w1) := (by refine ⟨?_, HA.out.2.grown hgrow1 HA.out.2.size (fun g hg => (HA.out.1.lt g hg).1)⟩; rw [HN.out, List.length_append, cellsS_app]; exact hown1); clear hown1 hgrow1))
        go_roundw
        case rel => exact ⟨k + 1, by omega, by go_num, HRR.out.1, HRR.out.2⟩
        case measure => simp [intOf]; omega
    · obtain rfl : k = l.length := by omega
      rw [List.take_length] at hrow
      have HR := Lib.hid hrow
      clear hrow
      go_wp2
      go_ret
      refine ⟨_, rfl, ?_, hB⟩
      have h := HR.out
      simp only [List.take_length] at h ⊢
      exact h
end Go.Proofs.YtikjmingkadjcaaGreatDoor

/-
  The walk of schema.Copy.
-/
namespace Go.Proofs.YtikjmingkadjcaaGreatDoor
open Go.RowKit
set_option linter.unusedVariables false
set_option linter.unusedSimpArgs false

def kq3 (k : Kd) : Nm × List Nm × List Fd := (k.nm, k.of, k.fs)
def cellsBd (L : List Bd) : List Value := L.flatMap Bd.cells
def OwnKs (w : World) (base : Nat) (v : Value) (L : List Kd) : Prop := w.ownsRow base 34 3 v L.length (cellsK L) ∧ ∀ k ∈ L, w.ownsRow base 9 1 k.vo k.of.length (cellsS k.of) ∧ w.ownsRow base 101 4 k.vf k.fs.length (cellsF k.fs)
def OwnBs (w : World) (base : Nat) (v : Value) (B : List Bd) : Prop := w.ownsRow base 103 5 v B.length (cellsBd B)
theorem OwnKs.kt {w w' : World} {base : Nat} {v : Value} {L : List Kd} (h : OwnKs w base v L) (h36 : Kt 34 w w') (h9 : Kt 9 w w') (h32 : Kt 101 w w') : OwnKs w' base v L := ⟨own_kt h.1 h36, fun k hk => ⟨own_kt (h.2 k hk).1 h9, own_kt (h.2 k hk).2 h32⟩⟩
theorem infoKd : (Tryz.prog.info? 34).map (fun i => (i.zero, i.size, i.bytes)) = some (some (.agg #[.string ⟨#[]⟩, .slice none 0 0, .slice none 0 0]), 3, 64) := by kernel_rfl
theorem infoFdI : (Tryz.prog.info? 101).map (fun i => (i.zero, i.size, i.bytes)) = some (some (.agg #[.string ⟨#[]⟩, .int .i64 0, .bool false, .bool false]), 4, 32) := by kernel_rfl
theorem infoBdI : (Tryz.prog.info? 103).map (fun i => (i.zero, i.size, i.bytes)) = some (some (.agg #[.string ⟨#[]⟩, .string ⟨#[]⟩, .string ⟨#[]⟩, .int .i64 0, .int .i64 0]), 5, 64) := by kernel_rfl
theorem hasS {w : World} {v : Value} {l : List Nm} (h : IsS w v l) : HasC w v l.length (cellsS l) := by
  rcases h with ⟨ao, c, rfl, rfl, _⟩ | ⟨b, off, cap, rfl, _, _, hb, hl⟩
  · exact ⟨ao, c, rfl, .inl ⟨rfl, rfl⟩⟩
  · refine ⟨_, cap, rfl, .inr ⟨b, off, rfl, hb, fun j u hu => ?_⟩⟩
    unfold cellsS at hu
    rw [List.getElem?_map] at hu
    obtain ⟨n, h1, rfl⟩ := Option.map_eq_some_iff.1 hu
    rw [Addr.add_lit]
    exact hl j n h1
theorem fd_len (f : Fd) : f.cells.length = 4 := rfl
theorem bd_len (x : Bd) : x.cells.length = 5 := rfl
theorem hasF {w : World} {v : Value} {l : List Fd} (h : IsF w v l) : HasC w v l.length (cellsF l) := by
  rcases h with ⟨ao, c, rfl, rfl, _⟩ | ⟨b, off, cap, rfl, _, _, hb, hl⟩
  · exact ⟨ao, c, rfl, .inl ⟨rfl, rfl⟩⟩
  · refine ⟨_, cap, rfl, .inr ⟨b, off, rfl, hb, fun j u hu => ?_⟩⟩
    obtain ⟨k, x, i, hk, hi, rfl, hx⟩ := flatK_inv fd_len l hu
    obtain ⟨c0, c1, c2, c3⟩ := hl k x hk
    rw [Addr.add_lit, ← Nat.add_assoc]
    have : i = 0 ∨ i = 1 ∨ i = 2 ∨ i = 3 := by omega
    rcases this with rfl | rfl | rfl | rfl <;> (simp only [Fd.cells] at hx; simp at hx; subst hx)
    · exact c0
    · exact c1
    · exact c2
    · exact c3
theorem hasB {w : World} {v : Value} {l : List Bd} (h : IsB w v l) : HasC w v l.length (cellsBd l) := by
  rcases h with ⟨rfl, rfl⟩ | ⟨b, off, cap, rfl, _, _, hb, hl⟩
  · exact ⟨none, 0, rfl, .inl ⟨rfl, rfl⟩⟩
  · refine ⟨_, cap, rfl, .inr ⟨b, off, rfl, hb, fun j u hu => ?_⟩⟩
    obtain ⟨k, x, i, hk, hi, rfl, hx⟩ := flatK_inv bd_len l hu
    obtain ⟨c0, c1, c2, c3, c4⟩ := hl k x hk
    rw [Addr.add_lit, ← Nat.add_assoc]
    have : i = 0 ∨ i = 1 ∨ i = 2 ∨ i = 3 ∨ i = 4 := by omega
    rcases this with rfl | rfl | rfl | rfl | rfl <;> (simp only [Bd.cells] at hx; simp at hx; subst hx)
    · exact c0
    · exact c1
    · exact c2
    · exact c3
    · exact c4
theorem fd_one (L : List Fd) : ∀ u ∈ cellsF L, u.oneCell' = true := by
  intro u hu
  obtain ⟨p, _, hp⟩ := List.mem_flatMap.1 hu
  simp [Fd.cells] at hp
  rcases hp with rfl | rfl | rfl | rfl <;> rfl
theorem bd_oneI (L : List Bd) : ∀ u ∈ cellsBd L, u.oneCell' = true := by
  intro u hu
  obtain ⟨p, _, hp⟩ := List.mem_flatMap.1 hu
  simp [Bd.cells] at hp
  rcases hp with rfl | rfl | rfl | rfl | rfl <;> rfl
theorem str_one (L : List Nm) : ∀ u ∈ cellsS L, u.oneCell' = true := by
  intro u hu
  obtain ⟨p, _, rfl⟩ := List.mem_map.1 hu
  rfl
theorem clone_names (w : World) (base : Nat) (hb : base ≤ w.heap.size) {v : Value} {L : List Nm} (h : IsS w v L) (hl : L.length ≤ 1000) (ty : TypeId) :
    ∃ v' w', (Builtin.append_ #[31, 31] ty #[.slice none 0 0, v]).run Tryz.prog w = .ok v' w' ∧ (w'.ownsRow base 9 1 v' L.length (cellsS L) ∧ w.grownBy w' none) := by
  obtain ⟨i0, hi0, hz0, hz1, hz2⟩ := info_parts infoStr
  exact run_clone w base 31 ty 9 i0 _ 1 16 Tryz.underlying31 hi0 hz0 hz1 hz2 rfl (by decide) v _ _ (hasS h) (cellsS_len L) (str_one L) (by unfold maxLen; omega) (by omega) hb
theorem clone_fields (w : World) (base : Nat) (hb : base ≤ w.heap.size) {v : Value} {L : List Fd} (h : IsF w v L) (hl : L.length ≤ 1000) (ty : TypeId) :
    ∃ v' w', (Builtin.append_ #[32, 32] ty #[.slice none 0 0, v]).run Tryz.prog w = .ok v' w' ∧ (w'.ownsRow base 101 4 v' L.length (cellsF L) ∧ w.grownBy w' none) := by
  obtain ⟨i0, hi0, hz0, hz1, hz2⟩ := info_parts infoFdI
  exact run_clone w base 32 ty 101 i0 _ 4 32 Tryz.underlying32 hi0 hz0 hz1 hz2 rfl (by decide) v _ _ (hasF h) (flatK_len fd_len L) (fd_one L) (by unfold maxLen; omega) (by omega) hb
theorem clone_bonds (w : World) (base : Nat) (hb : base ≤ w.heap.size) {v : Value} {L : List Bd} (h : IsB w v L) (hl : L.length ≤ 1000) (ty : TypeId) :
    ∃ v' w', (Builtin.append_ #[23, 23] ty #[.slice none 0 0, v]).run Tryz.prog w = .ok v' w' ∧ (OwnBs w' base v' L ∧ w.grownBy w' none) := by
  obtain ⟨i0, hi0, hz0, hz1, hz2⟩ := info_parts infoBdI
  exact run_clone w base 23 ty 103 i0 _ 5 64 Tryz.underlying23 hi0 hz0 hz1 hz2 rfl (by decide) v _ _ (hasB h) (flatK_len bd_len L) (bd_oneI L) (by unfold maxLen; omega) (by omega) hb
end Go.Proofs.YtikjmingkadjcaaGreatDoor
