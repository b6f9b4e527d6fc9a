/-
  The walk of Print.
-/
import Derived.Test.YtenadbfedbjefaaDoorAsB
namespace Go.Proofs.YtenadbfedbjefaaDoor
open Go.RowKit
set_option linter.unusedVariables false
set_option linter.unusedSimpArgs false

theorem step_append_own {P : Program} {ops : Array Oper} {o : Oper} {a : Act} {w : World} {K : Act → World → Prop} {Q : Exit → Act → World → Prop} {E : Prop}
    (hg : o.guard = none) (s x : Operand) (t : TypeId) (ho : o.op = .call { callee := .builtin .append, args := #[s, x], argTypes := #[t, t] })
    (base : Nat) (e : TypeId) (i : TypeInfo) (z : Value) (size bytes : Nat) (ht : P.underlying t = some (.slice e)) (hi : P.info? e = some i) (hz : i.zero = some z)
    (hsize : i.size = size) (hby : i.bytes = bytes) (hzs : z.cells.size = size) (hsz : 0 < size)
    (v : Value) (n : Nat) (xs : List Value) (hs : a.eval s = v) (hown : w.ownsRow base e size v n xs)
    (ad : Addr) (m c : Nat) (news : List Value) (hx : a.eval x = .slice (some ad) m c) (hl : news.length = m * size) (hnews : ∀ j u, news[j]? = some u → w.cell? (ad.add j) = some u) (h1 : ∀ u ∈ news, u.oneCell' = true)
    (h63 : n + m ≤ maxLen) (hbytes : (n + m) * bytes ≤ 140737488355328) (hbase : base ≤ w.heap.size)
    (hK : ∀ v' w', w'.ownsRow base e size v' (n + m) (xs ++ news) → w.grownBy w' v.ownBlock → K (a.put o.dst v') w') :
    if Region.wanted o (yielded ops a.tmps) = true then Oper.wp P o a w K Q else E := by
  have hw : Region.wanted o (yielded ops a.tmps) = true := by simp [Region.wanted, hg]
  rw [if_pos hw]
  exact wp_append_own w s x t ho base e i z size bytes ht hi hz hsize hby hzs hsz v n xs hs hown ad m c news hx hl hnews h1 h63 hbytes hbase (fun v' w' h2 h3 _ => hK v' w' h2 h3)
theorem bdT_len {f : Bool} {p : St} (h : OkS f p) : p.bd.length ≤ 1 := by
  cases f with
  | true => rw [(h.2.1 rfl).1]; decide
  | false => rw [h.2.2 rfl]; decide
theorem bdT_le {f : Bool} {p : St} (h : OkS f p) : (bdT p).length ≤ 1000 := by
  have h1 := bdT_len h
  have h2 := ar_len p.back
  unfold bdT
  simp only [List.length_append]
  omega
theorem wdsT_mem {l : List St} (h : ∀ p ∈ l, ∃ f, OkS f p) : ∀ x ∈ wdsT l, x.length ≤ 1000 := by
  induction l with
  | nil => intro x hx; simp [wdsT] at hx
  | cons a r ih =>
    intro x hx
    simp only [wdsT, List.mem_cons] at hx
    obtain ⟨f, ha⟩ := h a (by simp)
    rcases hx with rfl | rfl | hx
    · exact bdT_le ha
    · have := name_len ha.1; omega
    · exact ih (fun p hp => h p (by simp [hp])) x hx
theorem wds_mem {l : List St} (h : ∀ p ∈ l, ∃ f, OkS f p) : ∀ x ∈ wds l, x.length ≤ 1000 := by
  cases l with
  | nil => intro x hx; simp [wds] at hx
  | cons a r =>
    intro x hx
    simp only [wds, List.mem_cons] at hx
    obtain ⟨f, ha⟩ := h a (by simp)
    rcases hx with rfl | hx
    · have := name_len ha.1; omega
    · exact wdsT_mem (fun p hp => h p (by simp [hp])) x hx
/-- What stands between two rounds. -/
def PP (w : World) (l : List St) (ws i : Value) (wr : World) : Prop := ∃ k : Nat, k ≤ l.length ∧ i = .int .i64 k ∧ wr.ownsRow w.heap.size 9 1 ws (wds (l.take k)).length (wcells (wds (l.take k))) ∧ Below w.heap.size w wr
theorem take_one_more {l : List St} {k : Nat} {p : St} (hp : l[k]? = some p) : l.take (k + 1) = l.take k ++ [p] := by
  obtain ⟨hk', rfl⟩ := List.getElem?_eq_some_iff.1 hp
  exact List.take_succ_eq_append_getElem hk'

set_option maxHeartbeats 4000000 in
set_option maxRecDepth 100000 in
theorem print_ok {b off c : Nat} {L : List St} {w : World} (hb : b < w.heap.size) (hL : LiesS w b off L) (hok : OkL L) :
    Calls Tryd.prog 5 #[.slice (some ⟨b, off, none⟩) L.length c] w fun e w' => e = .returned (.tuple #[.string (bs (askT L)), .nilIface]) ∧ Below w.heap.size w w' := by
  obtain ⟨i0, hi0, hz0, hz1, hz2⟩ := info_parts info9
  have c1 := plain_ok (c := c) hb hL hok
  obtain ⟨hpos, hl6, hst⟩ := hok
  have HK : Hid ((∀ k p, L[k]? = some p → OkS (decide (k = 0)) p) ∧ LiesS w b off L) := ⟨hst, hL⟩
  clear hL hst
  go_enter Tryd.func5, Tryd.ntmps5
  go_wp2_with (go_at_call 9; refine c1.mono ?_; rintro e W0 ⟨rfl, hB0⟩)
  go_loopw [5, 15] (fun ws i wr => PP w L ws i wr) (fun _ i _ => L.length - (intOf i).toNat)
  case atStart => exact ⟨0, Nat.zero_le _, rfl, World.ownsRow_nil _ _ _ _, hB0⟩
  case round =>
    obtain ⟨k, hk, rfl, hown, hB⟩ := hrel
    have HO := Lib.hid hown
    clear hown hB0 c1
    by_cases hlt : k < L.length
    · obtain ⟨xs, hp⟩ : ∃ p, L[k]? = some p := ⟨L[k], by simp [hlt]⟩
      obtain ⟨l0, l1, l2, l3⟩ := (HK.out.2.on hb hB) k xs hp
      have hxo := HK.out.1 k xs hp
      have hBA : Below w.heap.size w (wr.alloc (boxP xs)) := b_alloc hB _
      have HBA := Lib.hid hBA
      have cT := printTests_nil
      have cB := fun W => printBond_any xs W (by have := bdT_len hxo; omega)
      obtain ⟨z1, H1, n1, k1⟩ := catX xs.kd [] (by have := name_len hxo.1; omega) (by simp)
      have HZ : Hid (xs.kd = z1) := by show _ = _; rw [H1.out]; simp
      rw [show bs [] = ⟨#[]⟩ from rfl] at k1
      have HM : Hid (∀ n, n ≤ 20 → n + 1 ≤ maxLen ∧ (n + 1) * 16 ≤ 140737488355328) := fun n hn => by unfold maxLen; exact ⟨by omega, by omega⟩
      have hwl : (wds (L.take k)).length ≤ 12 := by
        have := wds_len (L.take k)
        simp at this; omega
      have HWL := Lib.hid hwl
      have HP := Lib.hid (new_block wr #[.string (bs xs.bd), .bool xs.back, .string (bs xs.kd), .slice none 0 0] 30)
      have HT1 := Lib.hid (take_one_more hp)
      clear hxo H1 n1 hwl hp hBA
      by_cases h0 : 0 < k
      · have hwds : wds (L.take (k + 1)) = (wds (L.take k) ++ [bdT xs]) ++ [z1] := by
          rw [HT1.out, ← HZ.out]
          refine wds_app _ _ (fun e => ?_)
          have := congrArg List.length e
          rw [List.length_take] at this
          simp only [List.length_nil] at this; omega
        have HW := Lib.hid hwds
        generalize bdT xs = bt at cB HW
        have q2 : (wr.alloc (boxP xs)).cell? ⟨wr.heap.size, 2, none⟩ = some (.string (bs xs.kd)) := cell_at HP.out rfl
        have q3 : (wr.alloc (boxP xs)).cell? ⟨wr.heap.size, 3, none⟩ = some (.slice none 0 0) := cell_at HP.out rfl
        have Q2 := Lib.hid q2
        have Q3 := Lib.hid q3
        have HC : Hid (∀ (W1 w1 : World) (o : Obj), W1.cell? ⟨wr.heap.size, 2, none⟩ = some (.string (bs xs.kd)) → W1.cell? ⟨wr.heap.size, 3, none⟩ = some (.slice none 0 0) → (W1.alloc o).grownBy w1 u5.ownBlock → w1.cell? ⟨wr.heap.size, 2, none⟩ = some (.string (bs xs.kd)) ∧ w1.cell? ⟨wr.heap.size, 3, none⟩ = some (.slice none 0 0)) := fun W1 w1 o h2 h3 hg =>
          have hne : some wr.heap.size ≠ u5.ownBlock := fun e => by have := (HO.out.lt _ e.symm).2; omega
          ⟨hg.cell (cell_old h2 o) hne, hg.cell (cell_old h3 o) hne⟩
        clear hB hwds q2 q3
        go_wp2_with (first | (go_at_call 10; refine (cB _).mono ?_; rintro e W1 ⟨rfl, hB1⟩; have HO1 := Lib.hid (own_on (HO.out.alloc _) hB1); have HB1 := Lib.hid (on1 HBA.out hB1); have HR := Lib.hid (And.intro ((hB1.cell (by simp)).trans Q2.out) ((hB1.cell (by simp)).trans Q3.out)); have hsz1 : w.heap.size ≤ W1.heap.size := HB1.out.size; have HPB := Lib.hid ((hB1.block wr.heap.size (by simp)).trans HP.out); clear hB1) | (at_builtin; refine wpList_append_own _ rfl (.tmp 22) (.tmp 25) 22 rfl w.heap.size 9 i0 _ 1 16 Tryd.underlying22 hi0 hz0 hz1 hz2 rfl (by decide) u5 _ _ rfl (HO1.out.alloc _) ⟨W1.heap.size, 0, none⟩ 1 1 [.string (bs bt)] rfl rfl (cell_new1 W1 _) (cell_one1 _) (HM.out _ (Nat.le_trans HWL.out (by decide))).1 (HM.out _ (Nat.le_trans HWL.out (by decide))).2 (by simp; omega) ?_; intro v2 w2 hown2 hgrow _; refine Hid.out ?_))
        refine Lib.hid ?_
        obtain ⟨q2, q3⟩ := HC.out W1 w2 _ HR.out.1 HR.out.2 hgrow
        have HBW := Lib.hid (below_grown (b_alloc HB1.out _) hgrow (b_alloc HB1.out _).size (fun j hj => (HO1.out.lt j hj).1))
        have HOW2 : Hid (w2.ownsRow w.heap.size 9 1 v2 (wds (L.take k) ++ [bt]).length (wcells (wds (L.take k) ++ [bt]))) := by
          show World.ownsRow _ _ _ _ _ _ _
          rw [List.length_append, wcells_app]; exact hown2
        have cT0 := cT w2.drew
        have hwl2 : (wds (L.take k) ++ [bt]).length ≤ 13 := by have := HWL.out; simp at this ⊢; omega
        have HWL2 := Lib.hid hwl2
        have hbx := (hgrow.block wr.heap.size (Array.getElem?_eq_some_iff.1 (old_block HPB.out _)).1 (fun e => by have := (HO.out.lt _ e.symm).2; omega)).trans (old_block HPB.out _)
        have hne2 : some wr.heap.size ≠ v2.ownBlock := fun e => by
          rcases HOW2.out.2 with ⟨rfl, h0⟩ | ⟨g, cap, cur, rfl, hbg, hgg, _⟩
          · simp at h0
          · have e2 : wr.heap.size = g := by simpa [Value.ownBlock] using e
            subst e2
            rw [hbx] at hgg
            injection hgg with e3
            injection e3 with _ e4
            exact absurd e4 (by decide)
        have HC2 : Hid (∀ (W1 w1 : World) (o : Obj), W1.cell? ⟨wr.heap.size, 2, none⟩ = some (.string (bs xs.kd)) → W1.cell? ⟨wr.heap.size, 3, none⟩ = some (.slice none 0 0) → (W1.alloc o).grownBy w1 v2.ownBlock → w1.cell? ⟨wr.heap.size, 2, none⟩ = some (.string (bs xs.kd)) ∧ w1.cell? ⟨wr.heap.size, 3, none⟩ = some (.slice none 0 0)) := fun W1 w1 o h2 h3 hg =>
          ⟨hg.cell (cell_old h2 o) hne2, hg.cell (cell_old h3 o) hne2⟩
        have HOX : Hid (w2.drew.ownsRow w.heap.size 9 1 v2 (wds (L.take k) ++ [bt]).length (wcells (wds (L.take k) ++ [bt])) ∧ Below w.heap.size w w2.drew ∧ w2.drew.cell? ⟨wr.heap.size, 2, none⟩ = some (.string (bs xs.kd)) ∧ w2.drew.cell? ⟨wr.heap.size, 3, none⟩ = some (.slice none 0 0)) :=
          ⟨HOW2.out, b_drewK HBW.out 1, q2, q3⟩
        generalize wds (L.take k) ++ [bt] = WS at HW HOX HOW2 HWL2
        clear cT cB hown2 hgrow HO1 HB1 HR hsz1 hne2 hwl2 hbx
        go_wp2
        first | (go_region_held_law (fun w' => w'.cell? ⟨wr.heap.size, 2, none⟩ = some (.string (bs xs.kd)) ∧ w'.cell? ⟨wr.heap.size, 3, none⟩ = some (.slice none 0 0)) (go_keep) (first | (refine step_append_own rfl (.tmp 27) (.tmp 34) 22 rfl w.heap.size 9 i0 _ 1 16 Tryd.underlying22 hi0 hz0 hz1 hz2 rfl (by decide) v2 _ _ (by simp [Act.eval, Act.put]) (HO1.out.alloc _) ⟨W3.heap.size, 0, none⟩ 1 1 [.string (bs z1)] (by simp [Act.eval, Act.put]) rfl (cell_new1 W3 _) (cell_one1 _) (HM.out _ (Nat.le_trans HWL2.out (by decide))).1 (HM.out _ (Nat.le_trans HWL2.out (by decide))).2 (by have := HB1.out.size; simp; omega) ?_; intro v1 w1 hown2 hgrow; obtain ⟨t2, t3⟩ := HC2.out W3 w1 _ r2 r3 hgrow; have HOW := Lib.hid hown2; have HGW := Lib.hid hgrow; clear hown2 hgrow) | (go_simp; go_at_call 11; refine cT0.mono ?_; rintro e W3 ⟨rfl, hW3⟩; obtain ⟨ho1, hb1, r2, r3⟩ := HOX.out; rw [← hW3] at ho1 hb1 r2 r3; have HO1 := Lib.hid ho1; have HB1 := Lib.hid hb1; clear ho1 hb1 hW3))) | fail
        have R : PP w L v1 (.int .i64 ((k : Int) + 1)) w1 := ⟨k + 1, by omega, by go_num, by rw [HW.out, List.length_append, wcells_app]; exact HOW.out, below_grown (b_alloc HB1.out _) HGW.out (b_alloc HB1.out _).size (fun j hj => (HO1.out.lt j hj).1)⟩
        go_wp2
        refine ⟨?_, ?_⟩
        · first
            | exact R
            | ((repeat apply Exists.intro)
               refine ⟨?_, rfl⟩
               exact R)
        · simp [intOf]; omega
      · have HW : Hid (wds (L.take (k + 1)) = wds (L.take k) ++ [z1]) := by
          show _ = _
          have hk0 : k = 0 := by omega
          rw [HT1.out, ← HZ.out, hk0]; simp [wds, wdsT]
        have q2 : (wr.alloc (boxP xs)).cell? ⟨wr.heap.size, 2, none⟩ = some (.string (bs xs.kd)) := cell_at HP.out rfl
        have q3 : (wr.alloc (boxP xs)).cell? ⟨wr.heap.size, 3, none⟩ = some (.slice none 0 0) := cell_at HP.out rfl
        have cT0 := cT (wr.alloc (boxP xs)).drew
        have HOX : Hid ((wr.alloc (boxP xs)).drew.ownsRow w.heap.size 9 1 u5 (wds (L.take k)).length (wcells (wds (L.take k))) ∧ Below w.heap.size w (wr.alloc (boxP xs)).drew ∧ (wr.alloc (boxP xs)).drew.cell? ⟨wr.heap.size, 2, none⟩ = some (.string (bs xs.kd)) ∧ (wr.alloc (boxP xs)).drew.cell? ⟨wr.heap.size, 3, none⟩ = some (.slice none 0 0)) :=
          ⟨HO.out.alloc _, b_drewK HBA.out 1, q2, q3⟩
        have HC : Hid (∀ (W1 w1 : World) (o : Obj), W1.cell? ⟨wr.heap.size, 2, none⟩ = some (.string (bs xs.kd)) → W1.cell? ⟨wr.heap.size, 3, none⟩ = some (.slice none 0 0) → (W1.alloc o).grownBy w1 u5.ownBlock → w1.cell? ⟨wr.heap.size, 2, none⟩ = some (.string (bs xs.kd)) ∧ w1.cell? ⟨wr.heap.size, 3, none⟩ = some (.slice none 0 0)) := fun W1 w1 o h2 h3 hg =>
          have hne : some wr.heap.size ≠ u5.ownBlock := fun e => by have := (HO.out.lt _ e.symm).2; omega
          ⟨hg.cell (cell_old h2 o) hne, hg.cell (cell_old h3 o) hne⟩
        clear cT cB hB
        go_wp2
        first | (go_region_held_law (fun w' => w'.cell? ⟨wr.heap.size, 2, none⟩ = some (.string (bs xs.kd)) ∧ w'.cell? ⟨wr.heap.size, 3, none⟩ = some (.slice none 0 0)) (go_keep) (first | (refine step_append_own rfl (.tmp 27) (.tmp 34) 22 rfl w.heap.size 9 i0 _ 1 16 Tryd.underlying22 hi0 hz0 hz1 hz2 rfl (by decide) u5 _ _ (by simp [Act.eval, Act.put]) (HO1.out.alloc _) ⟨W1.heap.size, 0, none⟩ 1 1 [.string (bs z1)] (by simp [Act.eval, Act.put]) rfl (cell_new1 W1 _) (cell_one1 _) (HM.out _ (Nat.le_trans HWL.out (by decide))).1 (HM.out _ (Nat.le_trans HWL.out (by decide))).2 (by have := HB1.out.size; simp; omega) ?_; intro v1 w1 hown2 hgrow; obtain ⟨t2, t3⟩ := HC.out W1 w1 _ r2 r3 hgrow; have HOW := Lib.hid hown2; have HGW := Lib.hid hgrow; clear hown2 hgrow) | (go_simp; go_at_call 11; refine cT0.mono ?_; rintro e W1 ⟨rfl, hW3⟩; obtain ⟨ho1, hb1, r2, r3⟩ := HOX.out; rw [← hW3] at ho1 hb1 r2 r3; have HO1 := Lib.hid ho1; have HB1 := Lib.hid hb1; clear ho1 hb1 hW3))) | fail
        have R : PP w L v1 (.int .i64 ((k : Int) + 1)) w1 := ⟨k + 1, by omega, by go_num, by rw [HW.out, List.length_append, wcells_app]; exact HOW.out, below_grown (b_alloc HB1.out _) HGW.out (b_alloc HB1.out _).size (fun j hj => (HO1.out.lt j hj).1)⟩
        go_wp2
        refine ⟨?_, ?_⟩
        · first
            | exact R
            | ((repeat apply Exists.intro)
               refine ⟨?_, rfl⟩
               exact R)
        · simp [intOf]; omega
    · obtain rfl : k = L.length := by omega
      have hown := HO.out
      rw [List.take_length] at hown
      have hwp : 0 < (wds L).length := by
        cases L with
        | nil => simp at hpos
        | cons a r => simp [wds]
      have cj := joinB hown hwp (by have := wds_len L; omega) 32 (fun x hx => Nat.le_trans (wds_mem (fun p hp => by obtain ⟨j, hj⟩ := List.mem_iff_getElem?.1 hp; exact ⟨_, HK.out.1 j p hj⟩) x hx) (by decide))
      have HA : Hid (Lib.join (wds L) [32] = askT L) := rfl
      rw [HA.out] at cj
      clear hown HO hwp HA
      go_wp2_with (go_at_call 12; refine cj.mono ?_; rintro e W1 ⟨rfl, hB1⟩)
      go_ret2
      exact ⟨rfl, on1 hB hB1⟩
end Go.Proofs.YtenadbfedbjefaaDoor
