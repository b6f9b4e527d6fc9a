/-
  slices.Insert of a field: and where the row lies behind it.
-/
import Derived.Test.YtkmkhadacppdnaaDoorDlK
namespace Go.Proofs.YtkmkhadacppdnaaDoor
open Go.RowKit
set_option linter.unusedVariables false
set_option linter.unusedSimpArgs false

/-- The row stays where it is, or it lies in a block that was not there. -/
def Moved (w : World) (v v' : Value) : Prop := v'.ownBlock = v.ownBlock ∨ ∃ g, v'.ownBlock = some g ∧ w.heap.size ≤ g
theorem append_at {P : Program} (w : World) (base : Nat) (t ty e : TypeId) (i : TypeInfo) (z : Value) (size bytes : Nat) (ht : P.underlying t = some (.slice e)) (hi : P.info? e = some i) (hz : i.zero = some z)
    (hsize : i.size = size) (hby : i.bytes = bytes) (hzs : z.cells.size = size) (hsz : 0 < size) (v : Value) (n : Nat) (xs : List Value) (hown : w.ownsRow base e size v n xs)
    (a : Addr) (m c : Nat) (hm : 0 < m) (news : List Value) (hl : news.length = m * size) (hnews : ∀ j u, news[j]? = some u → w.cell? (a.add j) = some u) (h1 : ∀ u ∈ news, u.oneCell' = true)
    (h63 : n + m ≤ maxLen) (hbytes : (n + m) * bytes ≤ 140737488355328) (hbase : base ≤ w.heap.size) :
    ∃ v' w', (Builtin.append_ #[t, t] ty #[v, .slice (some a) m c]).run P w = .ok v' w' ∧ w'.ownsRow base e size v' (n + m) (xs ++ news) ∧ w.grownBy w' v.ownBlock ∧ Moved w v v' ∧ v'.ownBlock ≠ none := by
  obtain ⟨v', w', r1, r2, r3, r4⟩ := run_append_own (P := P) w base t ty e i z size bytes ht hi hz hsize hby hzs hsz v n xs hown a m c news hl hnews h1 h63 hbytes hbase
  have hnn : v'.ownBlock ≠ none := by
    rcases r2.2 with ⟨_, h0⟩ | ⟨g, cap, cur, rfl, _⟩
    · omega
    · simp [Value.ownBlock]
  refine ⟨v', w', r1, r2, r3, ?_, hnn⟩
  have hsmall : n + m ≤ 9223372036854775807 := by simp only [maxLen] at h63; omega
  rcases hown.2 with ⟨rfl, rfl⟩ | ⟨g, cap, cur, rfl, hbg, hg, hnc, hcm, hcs, htake⟩
  · have hx : xs = [] := List.eq_nil_of_length_eq_zero (by simpa using hown.1)
    subst hx
    obtain ⟨v2, w2, q1, q2, _, _⟩ := run_append_own (P := P) w w.heap.size t ty e i z size bytes ht hi hz hsize hby hzs hsz (.slice none 0 0) 0 [] (World.ownsRow_nil _ _ _ _) a m c news hl hnews h1 h63 hbytes (Nat.le_refl _)
    rw [r1] at q1
    injection q1 with e1 e2
    subst e1
    rcases q2.2 with ⟨_, h0⟩ | ⟨g, cap, cur, rfl, hge, _⟩
    · omega
    · exact .inr ⟨g, rfl, hge⟩
  · subst hsize hby
    by_cases hroom : n + m ≤ cap
    · have hfit : n * i.size + news.length ≤ cur.size := by rw [hl, hcs, ← Nat.add_mul]; exact Nat.mul_le_mul_right _ hroom
      have hr := run_append_room (P := P) w t ty e i ht hi g n cap cur hg a m c news hl hnews h1 hroom hfit
      rw [r1] at hr
      injection hr with e1 e2
      subst e1
      exact .inl rfl
    · have holds : ∀ j u, xs[j]? = some u → w.cell? ((⟨g, 0, none⟩ : Addr).add j) = some u := hown.cells (g := g) rfl
      have hr := run_append_grow (P := P) w t ty e i z ht hi hz ⟨g, 0, none⟩ n cap xs hown.1 holds a m c news hl hnews (by omega) (by omega) (growslice_fits (by omega) hbytes)
      rw [r1] at hr
      injection hr with e1 e2
      subst e1
      exact .inr ⟨_, rfl, Nat.le_refl _⟩
set_option maxHeartbeats 4000000 in
set_option maxRecDepth 100000 in
theorem insertM_end {w : World} {base : Nat} {v : Value} {all : List Fd} (h : w.ownsRow base 38 4 v all.length (cellsF all)) (vb : Nat) (f : Fd) (hf : ∀ j u, f.cells[j]? = some u → w.cell? ((⟨vb, 0, none⟩ : Addr).add j) = some u) (hbase : base ≤ w.heap.size) (hn : all.length ≤ 96) :
    Calls Tryd.prog 53 #[v, .int .i64 all.length, .slice (some ⟨vb, 0, none⟩) 1 1] w fun e w' => ∃ v', e = .returned v' ∧ w'.ownsRow base 38 4 v' (all.length + 1) (cellsF all ++ f.cells) ∧ w.grownBy w' v.ownBlock ∧ Moved w v v' := by
  obtain ⟨i0, hi0, hz0, hz1, hz2⟩ := info_parts info59
  have HM : Hid (all.length + 1 ≤ maxLen ∧ (all.length + 1) * 32 ≤ 140737488355328) := by unfold maxLen; exact ⟨by omega, by omega⟩
  have HO : Hid (w.ownsRow base 38 4 v all.length (cellsF all) ∧ ∀ j u, f.cells[j]? = some u → w.cell? ((⟨vb, 0, none⟩ : Addr).add j) = some u) := ⟨h, hf⟩
  rcases h.2 with ⟨rfl, h0⟩ | ⟨g, cap, cur, rfl, hb, hg, hle, hcm, hcs, ht⟩
  · rw [h0] at HM HO ⊢
    clear h hf hn h0
    go_enter Tryd.func53, Tryd.ntmps53
    go_wp2_with (at_builtin; refine wpList_append_E rfl (.tmp 23) (.tmp 24) 32 rfl _ _ rfl rfl (append_at w base 32 _ 38 i0 _ 4 32 Tryd.underlying32 hi0 hz0 hz1 hz2 rfl (by decide) _ 0 (cellsF all) HO.out.1 ⟨vb, 0, none⟩ 1 1 (by decide) f.cells rfl HO.out.2 (fcells_one f) HM.out.1 HM.out.2 hbase) ?_; rintro v1 w1 ⟨hown1, hgrow1, hmv, _⟩)
    go_ret
    exact ⟨_, rfl, hown1, hgrow1, hmv⟩
  · have hnc : (all.length : Int) ≤ (cap : Int) := by omega
    unfold maxLen at hcm
    clear h hf hb hg hcs ht
    generalize all.length = n at *
    go_enter Tryd.func53, Tryd.ntmps53
    go_wp2_with (at_builtin; refine wpList_append_E rfl (.tmp 23) (.tmp 24) 32 rfl _ _ rfl rfl (append_at w base 32 _ 38 i0 _ 4 32 Tryd.underlying32 hi0 hz0 hz1 hz2 rfl (by decide) _ n (cellsF all) HO.out.1 ⟨vb, 0, none⟩ 1 1 (by decide) f.cells rfl HO.out.2 (fcells_one f) HM.out.1 HM.out.2 hbase) ?_; rintro v1 w1 ⟨hown1, hgrow1, hmv, _⟩)
    all_goals
      go_ret
      exact ⟨_, rfl, hown1, hgrow1, hmv⟩

/-- One field more in a row that the call itself made, at any place. -/
theorem insertM_any {w : World} {base : Nat} {v : Value} {all : List Fd} (h : w.ownsRow base 38 4 v all.length (cellsF all)) (i : Nat) (hi : i ≤ all.length) (vb : Nat) (f : Fd) (hv : w.heap[vb]? = some (.cells #[.string (bs f.nm), .int .i64 f.t, .bool f.must, .bool f.key] 38 (0, 0))) (hne : v.ownBlock ≠ some vb) (hbase : base ≤ w.heap.size) (hn : all.length ≤ 96) :
    Calls Tryd.prog 53 #[v, .int .i64 i, .slice (some ⟨vb, 0, none⟩) 1 1] w fun e w' => ∃ v', e = .returned v' ∧ w'.ownsRow base 38 4 v' (all.take i ++ f :: all.drop i).length (cellsF (all.take i ++ f :: all.drop i)) ∧ w.grownBy w' v.ownBlock ∧ Moved w v v' := by
  have hlen : (all.take i ++ f :: all.drop i).length = all.length + 1 := by simp; omega
  rw [hlen, cellsF_ins]
  by_cases he : i = all.length
  · subst he
    refine (insertM_end h vb f (fun j u hu => by rw [Addr.add_lit, cell_of_row w vb (0 + j) _ 38 (0, 0) hv]; simpa [Fd.cells] using hu) hbase hn).mono ?_
    rintro e w' ⟨v', rfl, ho, hB, hM⟩
    refine ⟨v', rfl, ?_, hB, hM⟩
    rw [List.take_length, List.drop_length]
    simpa [cellsF] using ho
  · have hlt : i < all.length := by omega
    have hh := h
    rcases h.2 with ⟨rfl, h0⟩ | ⟨g, cap, cur, rfl, hb, hg, hle, hcm, hcs, ht⟩
    · omega
    · have hgb : vb ≠ g := fun e => hne (by simp [Value.ownBlock, e])
      have hsplit : cellsF all = cellsF (all.take i) ++ cellsF (all.drop i) := by rw [← cellsF_app, List.take_append_drop]
      have hx : (cellsF (all.take i)).length = i * 4 := by rw [cellsF_len, List.length_take_of_le hi]
      have hy : (cellsF (all.drop i)).length = (all.length - i) * 4 := by rw [cellsF_len, List.length_drop]
      have hfl : f.cells.length = 4 := rfl
      rw [hsplit] at ht
      by_cases hroom : all.length + 1 ≤ cap
      · refine (insert_room f hg hcs hcm ht hx hy hlt hn hroom (cellsF_one _) hv hgb).mono ?_
        rintro e w' ⟨rfl, w1, e1, e2, e3, e4, rfl⟩
        have hg1 : w1.heap[g]? = some (.cells cur 38 (0, 0)) := by rw [e1]; exact hg
        have hll : (lay (lay cur.toList ((i + 1) * 4) (cellsF (all.drop i))) (i * 4) f.cells).length = cap * 4 := by
          have hc : cur.toList.length = cap * 4 := by simpa using hcs
          have l1 := lay_len (l := cur.toList) (o := (i + 1) * 4) (cs := cellsF (all.drop i)) (by rw [hy, hc]; omega)
          rw [lay_len (by rw [l1, hfl, hc]; omega), l1, hc]
        refine ⟨_, rfl, ⟨by simp only [List.length_append]; omega, .inr ⟨g, cap, _, rfl, hb, setRow_heap w1 g cur _ 38 _ hg1, hroom, hcm, by simpa using hll, ?_⟩⟩, ?_, .inl rfl⟩
        · have e := lay_room cur.toList (cellsF (all.take i)) (cellsF (all.drop i)) (cur.toList.drop (all.length * 4)) f.cells (by rw [← ht, List.take_append_drop]) (by
            have hc : cur.toList.length = cap * 4 := by simpa using hcs
            rw [hfl, List.length_drop, hc]; omega)
          rw [hx, hfl, hy] at e
          rw [show (i + 1) * 4 = i * 4 + 4 by omega, show (all.length + 1) * 4 = i * 4 + 4 + (all.length - i) * 4 by omega]
          simpa using e
        · exact grown_trans (b := w1) ⟨by rw [e2], by rw [e3], by rw [e4], by rw [e1]; exact Nat.le_refl _, fun k _ _ => by rw [e1]⟩ (setRow_grown w1 g _)
      · refine (insert_grow f hg hcs ht hx hy hlt hn hle (by omega) (cellsF_one _) hv).mono ?_
        rintro e w' ⟨G, row, rfl, h1, h2, h3, h4, h5, h6⟩
        refine ⟨_, rfl, ⟨by simp only [List.length_append]; omega, .inr ⟨w.heap.size, G, _, rfl, hbase, h3, h1, h2, by simpa using h4, by simpa using h5⟩⟩, grown_of_below h6 _, .inr ⟨_, rfl, Nat.le_refl _⟩⟩
end Go.Proofs.YtkmkhadacppdnaaDoor
