/-
  The walk of Print.
-/
import Derived.Test.YtmgkdghkenpmbaaGreatDoorAskQ
import Derived.Deep.RegionHeldLaw
import Derived.Deep.RegionLaw
namespace Go.Proofs.YtmgkdghkenpmbaaGreatDoor
open Go.RowKit
set_option linter.unusedVariables false
set_option linter.unusedSimpArgs false

theorem step_append_own {P : Program} {ops : Array Oper} {o : Oper} {a : Act} {w : World} {K : Act → World → Prop} {Q : Exit → Act → World → Prop} {E : Prop}
    (hg : o.guard = none) (s x : Operand) (t : TypeId) (ho : o.op = .call { callee := .builtin .append, args := #[s, x], argTypes := #[t, t] })
    (base : Nat) (e : TypeId) (i : TypeInfo) (z : Value) (size bytes : Nat) (ht : P.underlying t = some (.slice e)) (hi : P.info? e = some i) (hz : i.zero = some z)
    (hsize : i.size = size) (hby : i.bytes = bytes) (hzs : z.cells.size = size) (hsz : 0 < size)
    (v : Value) (n : Nat) (xs : List Value) (hs : a.eval s = v) (hown : w.ownsRow base e size v n xs)
    (ad : Addr) (m c : Nat) (news : List Value) (hx : a.eval x = .slice (some ad) m c) (hl : news.length = m * size) (hnews : ∀ j u, news[j]? = some u → w.cell? (ad.add j) = some u) (h1 : ∀ u ∈ news, u.oneCell' = true)
    (h63 : n + m ≤ maxLen) (hbytes : (n + m) * bytes ≤ 140737488355328) (hbase : base ≤ w.heap.size)
    (hK : ∀ v' w', w'.ownsRow base e size v' (n + m) (xs ++ news) → w.grownBy w' v.ownBlock → K (a.put o.dst v') w') :
    if Region.wanted o (yielded ops a.tmps) = true then Oper.wp P o a w K Q else E := by
  have hw : Region.wanted o (yielded ops a.tmps) = true := by simp [Region.wanted, hg]
  rw [if_pos hw]
  exact wp_append_own w s x t ho base e i z size bytes ht hi hz hsize hby hzs hsz v n xs hs hown ad m c news hx hl hnews h1 h63 hbytes hbase (fun v' w' h1 h2 _ => hK v' w' h1 h2)

/-- A step that is right. -/
def StOk (p : St) : Prop := nErr p.kd = 0 ∧ p.bd.length ≤ 8 ∧ p.ts.length ≤ 8 ∧ ∀ x ∈ p.ts, TstOk x
theorem tsP_ok {L : List Tst} (h : tsP L = 0) : ∀ x ∈ L, TstOk x := by
  induction L with
  | nil => intro x hx; cases hx
  | cons a r ih =>
    unfold tsP at h
    by_cases ha : tstP a = 0
    · rw [if_pos ha] at h
      intro x hx
      rcases List.mem_cons.1 hx with rfl | hx
      · exact tst_ok ha
      · exact ih h x hx
    · rw [if_neg ha] at h; exact absurd h ha
theorem stP_right {f : Bool} {p : St} (h : stP f p = 0) : nErr p.kd = 0 ∧ bdP f p = 0 ∧ p.ts.length ≤ 8 ∧ tsP p.ts = 0 := by
  unfold stP at h
  by_cases h1 : nErr p.kd = 0
  · rw [if_pos h1] at h
    by_cases h2 : bdP f p = 0
    · rw [if_pos h2] at h
      by_cases h3 : 8 < p.ts.length
      · rw [if_pos h3] at h; exact absurd h (by decide)
      · rw [if_neg h3] at h; exact ⟨h1, h2, by omega, h⟩
    · rw [if_neg h2] at h; exact absurd h h2
  · rw [if_neg h1] at h; exact absurd h h1
theorem bdP_len {f : Bool} {p : St} (h : bdP f p = 0) : p.bd.length ≤ 8 := by
  unfold bdP at h
  cases f with
  | true =>
    rw [if_pos rfl] at h
    by_cases h1 : p.bd = [] ∧ p.back = false
    · rw [h1.1]; simp
    · rw [if_neg h1] at h; exact absurd h (by decide)
  | false => rw [if_neg (by simp)] at h; exact name_len h
theorem stsP_right {l : List St} : ∀ {f : Bool}, stsP f l = 0 → ∀ p ∈ l, StOk p := by
  induction l with
  | nil => intro f h p hp; cases hp
  | cons a r ih =>
    intro f h p hp
    unfold stsP at h
    by_cases ha : stP f a = 0
    · rw [if_pos ha] at h
      rcases List.mem_cons.1 hp with rfl | hp
      · obtain ⟨h1, h2, h3, h4⟩ := stP_right ha
        exact ⟨h1, bdP_len h2, h3, tsP_ok h4⟩
      · exact ih h p hp
    · rw [if_neg ha] at h; exact absurd h ha
theorem askE_right {l : List St} (h : askE l = 0) : ¬ l = [] ∧ l.length ≤ 6 ∧ stsP true l = 0 := by
  unfold askE at h
  by_cases h0 : l = []
  · rw [if_pos h0] at h; exact absurd h (by decide)
  · rw [if_neg h0] at h
    by_cases h6 : 6 < l.length
    · rw [if_pos h6] at h; exact absurd h (by decide)
    · rw [if_neg h6] at h; exact ⟨h0, by omega, h⟩
theorem tsT_len {L : List Tst} (h : ∀ x ∈ L, TstOk x) (hl : L.length ≤ 8) : (tsT L).length ≤ 418 := by
  by_cases h0 : L = []
  · rw [h0]; decide
  · rw [tsT_ne h0]
    have := join_le (L.map tstT) 44 51 (fun w hw => by
      obtain ⟨x, hxm, rfl⟩ := List.mem_map.1 hw
      exact tstT_len (h x hxm))
    rw [List.length_map] at this
    have h2 : (51 + 1) * L.length ≤ (51 + 1) * 8 := Nat.mul_le_mul_left _ hl
    have h3 : (Lib.join (L.map tstT) [44]).length ≤ 416 := by
      have e : (44 : Nat).toUInt8 = (44 : UInt8) := rfl
      rw [e] at this; omega
    simp; omega
theorem kdT_len {p : St} (h : StOk p) : (kdT p).length ≤ 1000 := by
  have h1 := name_len h.1
  have h2 := tsT_len h.2.2.2 h.2.2.1
  unfold kdT; simp; omega
theorem bdT_len {p : St} (h : StOk p) : (bdT p).length ≤ 1000 := by
  have h1 := h.2.1
  have h2 := ar_len p.back
  unfold bdT; simp; omega
theorem wdsT_app (l : List St) (p : St) : wdsT (l ++ [p]) = wdsT l ++ [bdT p, kdT p] := by
  induction l with
  | nil => rfl
  | cons a r ih => simp [wdsT, ih]
theorem wds_app (l : List St) (p : St) (h : ¬ l = []) : wds (l ++ [p]) = (wds l ++ [bdT p]) ++ [kdT p] := by
  cases l with
  | nil => exact absurd rfl h
  | cons a r => simp [wds, wdsT_app]
theorem wdsT_len (l : List St) : (wdsT l).length = 2 * l.length := by
  induction l with
  | nil => rfl
  | cons a r ih => simp [wdsT, ih]; omega
theorem wds_len (l : List St) : (wds l).length ≤ 2 * l.length := by
  cases l with
  | nil => simp [wds]
  | cons a r => simp [wds, wdsT_len]; omega
theorem wdsT_mem {l : List St} (h : ∀ p ∈ l, StOk p) : ∀ x ∈ wdsT l, x.length ≤ 1000 := by
  induction l with
  | nil => intro x hx; cases hx
  | cons a r ih =>
    intro x hx
    simp only [wdsT, List.mem_cons] at hx
    rcases hx with rfl | rfl | hx
    · exact bdT_len (h a (by simp))
    · exact kdT_len (h a (by simp))
    · exact ih (fun p hp => h p (by simp [hp])) x hx
theorem wds_mem {l : List St} (h : ∀ p ∈ l, StOk p) : ∀ x ∈ wds l, x.length ≤ 1000 := by
  cases l with
  | nil => intro x hx; cases hx
  | cons a r =>
    intro x hx
    simp only [wds, List.mem_cons] at hx
    rcases hx with rfl | hx
    · exact kdT_len (h a (by simp))
    · exact wdsT_mem (fun p hp => h p (by simp [hp])) x hx
/-- What stands between two rounds. -/
def PP (w : World) (l : List St) (ws i : Value) (wr : World) : Prop := ∃ k : Nat, k ≤ l.length ∧ i = .int .i64 k ∧ wr.ownsRow w.heap.size 9 1 ws (wds (l.take k)).length (wcells (wds (l.take k))) ∧ Below w.heap.size w wr
theorem take_one_more {l : List St} {k : Nat} {p : St} (hp : l[k]? = some p) : l.take (k + 1) = l.take k ++ [p] := by
  obtain ⟨hk', rfl⟩ := List.getElem?_eq_some_iff.1 hp
  exact List.take_succ_eq_append_getElem hk'

set_option maxHeartbeats 4000000 in
set_option maxRecDepth 100000 in
theorem print_ok {v : Value} {M : List Sp} {w : World} (h : IsSp w v M) (hz : ∀ p ∈ M, SpSz p.st) (hM : M.length ≤ maxLen) (he : askE (M.map Sp.st) = 0) (hT : Tab w) (hS : Sg w) :
    Calls Tryz.prog 6 #[v] w fun e w' => e = .returned (.tuple #[.string (bs (askT (M.map Sp.st))), .nilIface]) ∧ Below w.heap.size w w' := by
  obtain ⟨i0, hi0, hz0, hz1, hz2⟩ := info_parts info9
  have c1 := plain_any h hz hM
  rw [he, errV_0] at c1
  obtain ⟨hne, hl6, hst⟩ := askE_right he
  have hok := stsP_right hst
  obtain ⟨av, cv, rfl, hcells⟩ := h
  have hn0 : ¬ M = [] := by simpa using hne
  obtain ⟨b, off, rfl, hb, hL⟩ := hcells.resolve_left hn0
  rw [List.length_map] at hl6
  have HK : Hid ((∀ p ∈ M.map Sp.st, StOk p) ∧ Tab w ∧ Sg w ∧ LiesSp w b off M ∧ ∀ p ∈ M, SpSz p.st) := ⟨hok, hT, hS, hL, hz⟩
  have hpos : 0 < M.length := List.length_pos_iff.2 hn0
  clear hok hT hS hL hz he hst hcells hne hn0 hM
  go_enter Tryz.func6, Tryz.ntmps6
  go_wp2_with (go_at_call 10; refine c1.mono ?_; rintro e W0 ⟨rfl, hB0⟩)
  go_loopw [5, 15] (fun ws i wr => PP w (M.map Sp.st) ws i wr) (fun _ i _ => M.length - (intOf i).toNat)
  case atStart => exact ⟨0, Nat.zero_le _, rfl, World.ownsRow_nil _ _ _ _, hB0⟩
  case round =>
    obtain ⟨k, hk, rfl, hown, hB⟩ := hrel
    rw [List.length_map] at hk
    have HO := Lib.hid hown
    clear hown hB0 c1
    by_cases hlt : k < M.length
    · obtain ⟨x, hp⟩ : ∃ p, M[k]? = some p := ⟨M[k], by simp [hlt]⟩
      have hpm : (M.map Sp.st)[k]? = some x.st := by rw [List.getElem?_map, hp]; rfl
      obtain ⟨⟨l0, l1, l2, l3⟩, _⟩ := (HK.out.2.2.2.1.on hb hB) k x hp
      obtain ⟨_, hTs⟩ := HK.out.2.2.2.1 k x hp
      have hxo := HK.out.1 x.st (List.mem_of_getElem? hpm)
      have hxz := HK.out.2.2.2.2 x (List.mem_of_getElem? hp)
      obtain ⟨ta, tc, et⟩ := hTs.sl
      obtain ⟨xs, xv⟩ := x
      simp only at et l0 l1 l2 l3 hTs hxo hxz hpm
      subst et
      have hBA : Below w.heap.size w (wr.alloc (boxP xs ta xs.ts.length tc)) := b_alloc hB _
      have HBA := Lib.hid hBA
      have cT := fun (X : World) (hX : Below w.heap.size w X) => printTests_any (hTs.on hX) (fun y hy => ⟨hxo.2.2.2 y hy, (hxz.2.2.2 y hy).2⟩) hxo.2.2.1 (tabOn HK.out.2.1 hX) (HK.out.2.2.1.on hX)
      have cB := fun W => printBond_any xs ta xs.ts.length tc W (by have := hxo.2.1; omega)
      obtain ⟨z1, H1, n1, k1⟩ := catX xs.kd (tsT xs.ts) (by have := name_len hxo.1; omega) (by have := tsT_len hxo.2.2.2 hxo.2.2.1; omega)
      have HZ : Hid (kdT xs = z1) := by show _ = _; rw [H1.out]; rfl
      have HM : Hid (∀ n, n ≤ 20 → n + 1 ≤ maxLen ∧ (n + 1) * 16 ≤ 140737488355328) := fun n hn => by unfold maxLen; exact ⟨by omega, by omega⟩
      have hwl : (wds ((M.map Sp.st).take k)).length ≤ 12 := by
        have := wds_len ((M.map Sp.st).take k)
        simp at this; omega
      have HWL := Lib.hid hwl
      have HP := Lib.hid (new_block wr #[.string (bs xs.bd), .bool xs.back, .string (bs xs.kd), .slice ta xs.ts.length tc] 29)
      generalize tsT xs.ts = tt at cT k1
      have HT1 := Lib.hid (take_one_more hpm)
      clear hTs hxo hxz H1 n1 hwl hp hpm hBA
      by_cases h0 : 0 < k
      · have hwds : wds ((M.map Sp.st).take (k + 1)) = (wds ((M.map Sp.st).take k) ++ [bdT xs]) ++ [z1] := by
          rw [HT1.out, ← HZ.out]
          refine wds_app _ _ (fun e => ?_)
          have := congrArg List.length e
          rw [List.length_take, List.length_map] at this
          simp only [List.length_nil] at this; omega
        have HW := Lib.hid hwds
        generalize bdT xs = bt at cB HW
        have q2 : (wr.alloc (boxP xs ta xs.ts.length tc)).cell? ⟨wr.heap.size, 2, none⟩ = some (.string (bs xs.kd)) := cell_at HP.out rfl
        have q3 : (wr.alloc (boxP xs ta xs.ts.length tc)).cell? ⟨wr.heap.size, 3, none⟩ = some (.slice ta xs.ts.length tc) := cell_at HP.out rfl
        have Q2 := Lib.hid q2
        have Q3 := Lib.hid q3
        have HC : Hid (∀ (W1 w1 : World) (o : Obj), W1.cell? ⟨wr.heap.size, 2, none⟩ = some (.string (bs xs.kd)) → W1.cell? ⟨wr.heap.size, 3, none⟩ = some (.slice ta xs.ts.length tc) → (W1.alloc o).grownBy w1 u5.ownBlock → w1.cell? ⟨wr.heap.size, 2, none⟩ = some (.string (bs xs.kd)) ∧ w1.cell? ⟨wr.heap.size, 3, none⟩ = some (.slice ta xs.ts.length tc)) := fun W1 w1 o h2 h3 hg =>
          have hne : some wr.heap.size ≠ u5.ownBlock := fun e => by have := (HO.out.lt _ e.symm).2; omega
          ⟨hg.cell (cell_old h2 o) hne, hg.cell (cell_old h3 o) hne⟩
        clear hB hwds q2 q3
        go_wp2_with (first | (go_at_call 14; refine (cB _).mono ?_; rintro e W1 ⟨rfl, hB1⟩; have HO1 := Lib.hid (own_on (HO.out.alloc _) hB1); have HB1 := Lib.hid (on1 HBA.out hB1); have HR := Lib.hid (And.intro ((hB1.cell (by simp)).trans Q2.out) ((hB1.cell (by simp)).trans Q3.out)); have hsz1 : w.heap.size ≤ W1.heap.size := HB1.out.size; have HPB := Lib.hid ((hB1.block wr.heap.size (by simp)).trans HP.out); clear hB1) | (at_builtin; refine wpList_append_own _ rfl (.tmp 22) (.tmp 25) 49 rfl w.heap.size 9 i0 _ 1 16 Tryz.underlying49 hi0 hz0 hz1 hz2 rfl (by decide) u5 _ _ rfl (HO1.out.alloc _) ⟨W1.heap.size, 0, none⟩ 1 1 [.string (bs bt)] rfl rfl (cell_new1 W1 _) (cell_one1 _) (HM.out _ (Nat.le_trans HWL.out (by decide))).1 (HM.out _ (Nat.le_trans HWL.out (by decide))).2 (by simp; omega) ?_; intro v2 w2 hown2 hgrow _; refine Hid.out ?_))
        refine Lib.hid ?_
        obtain ⟨q2, q3⟩ := HC.out W1 w2 _ HR.out.1 HR.out.2 hgrow
        have HBW := Lib.hid (below_grown (b_alloc HB1.out _) hgrow (b_alloc HB1.out _).size (fun j hj => (HO1.out.lt j hj).1))
        have HOW2 : Hid (w2.ownsRow w.heap.size 9 1 v2 (wds ((M.map Sp.st).take k) ++ [bt]).length (wcells (wds ((M.map Sp.st).take k) ++ [bt]))) := by
          show World.ownsRow _ _ _ _ _ _ _
          rw [List.length_append, wcells_app]; exact hown2
        have cT0 := cT w2.drew (b_drewK HBW.out 1)
        have hwl2 : (wds ((M.map Sp.st).take k) ++ [bt]).length ≤ 13 := by have := HWL.out; simp at this ⊢; omega
        have HWL2 := Lib.hid hwl2
        have hbx := (hgrow.block wr.heap.size (Array.getElem?_eq_some_iff.1 (old_block HPB.out _)).1 (fun e => by have := (HO.out.lt _ e.symm).2; omega)).trans (old_block HPB.out _)
        have hne2 : some wr.heap.size ≠ v2.ownBlock := fun e => by
          rcases HOW2.out.2 with ⟨rfl, h0⟩ | ⟨g, cap, cur, rfl, hbg, hgg, _⟩
          · simp at h0
          · have e2 : wr.heap.size = g := by simpa [Value.ownBlock] using e
            subst e2
            rw [hbx] at hgg
            injection hgg with e3
            injection e3 with _ e4
            exact absurd e4 (by decide)
        have HC2 : Hid (∀ (W1 w1 : World) (o : Obj), W1.cell? ⟨wr.heap.size, 2, none⟩ = some (.string (bs xs.kd)) → W1.cell? ⟨wr.heap.size, 3, none⟩ = some (.slice ta xs.ts.length tc) → (W1.alloc o).grownBy w1 v2.ownBlock → w1.cell? ⟨wr.heap.size, 2, none⟩ = some (.string (bs xs.kd)) ∧ w1.cell? ⟨wr.heap.size, 3, none⟩ = some (.slice ta xs.ts.length tc)) := fun W1 w1 o h2 h3 hg =>
          ⟨hg.cell (cell_old h2 o) hne2, hg.cell (cell_old h3 o) hne2⟩
        have HOX : Hid (∀ W, Below w2.drew.heap.size w2.drew W → W.ownsRow w.heap.size 9 1 v2 (wds ((M.map Sp.st).take k) ++ [bt]).length (wcells (wds ((M.map Sp.st).take k) ++ [bt])) ∧ Below w.heap.size w W ∧ W.cell? ⟨wr.heap.size, 2, none⟩ = some (.string (bs xs.kd)) ∧ W.cell? ⟨wr.heap.size, 3, none⟩ = some (.slice ta xs.ts.length tc)) := fun W hW =>
          have hW' : Below w2.heap.size w2 W := ⟨hW.os, hW.tape, hW.output, hW.size, hW.block⟩
          ⟨own_kt HOW2.out (Kt.of_below hW'), on1 HBW.out hW', (hW'.cell (cell_lt q2)).trans q2, (hW'.cell (cell_lt q3)).trans q3⟩
        generalize wds ((M.map Sp.st).take k) ++ [bt] = WS at HW HOX HOW2 HWL2
        clear cT cB hown2 hgrow HO1 HB1 HR hsz1 hne2 hwl2 hbx
        go_wp2
        first | (go_region_held_law (fun w' => w'.cell? ⟨wr.heap.size, 2, none⟩ = some (.string (bs xs.kd)) ∧ w'.cell? ⟨wr.heap.size, 3, none⟩ = some (.slice ta xs.ts.length tc)) (go_keep) (first | (refine step_append_own rfl (.tmp 27) (.tmp 34) 49 rfl w.heap.size 9 i0 _ 1 16 Tryz.underlying49 hi0 hz0 hz1 hz2 rfl (by decide) v2 _ _ (by simp [Act.eval, Act.put]) (HO1.out.alloc _) ⟨W3.heap.size, 0, none⟩ 1 1 [.string (bs z1)] (by simp [Act.eval, Act.put]) rfl (cell_new1 W3 _) (cell_one1 _) (HM.out _ (Nat.le_trans HWL2.out (by decide))).1 (HM.out _ (Nat.le_trans HWL2.out (by decide))).2 (by have := HB1.out.size; simp; omega) ?_; intro v1 w1 hown2 hgrow; obtain ⟨t2, t3⟩ := HC2.out W3 w1 _ r2 r3 hgrow; have HOW := Lib.hid hown2; have HGW := Lib.hid hgrow; clear hown2 hgrow) | (go_simp; go_at_call 15; refine cT0.mono ?_; rintro e W3 ⟨rfl, hB1⟩; obtain ⟨ho1, hb1, r2, r3⟩ := HOX.out W3 hB1; have HO1 := Lib.hid ho1; have HB1 := Lib.hid hb1; clear ho1 hb1 hB1))) | fail
        have R : PP w (M.map Sp.st) v1 (.int .i64 ((k : Int) + 1)) w1 := ⟨k + 1, by simp; omega, by go_num, by rw [HW.out, List.length_append, wcells_app]; exact HOW.out, below_grown (b_alloc HB1.out _) HGW.out (b_alloc HB1.out _).size (fun j hj => (HO1.out.lt j hj).1)⟩
        go_wp2
        refine ⟨?_, ?_⟩
        · first
            | exact R
            | ((repeat apply Exists.intro)
               refine ⟨?_, rfl⟩
               exact R)
        · simp [intOf]; omega
      · have HW : Hid (wds ((M.map Sp.st).take (k + 1)) = wds ((M.map Sp.st).take k) ++ [z1]) := by
          show _ = _
          have hk0 : k = 0 := by omega
          rw [HT1.out, ← HZ.out, hk0]; simp [wds, wdsT]
        have q2 : (wr.alloc (boxP xs ta xs.ts.length tc)).cell? ⟨wr.heap.size, 2, none⟩ = some (.string (bs xs.kd)) := cell_at HP.out rfl
        have q3 : (wr.alloc (boxP xs ta xs.ts.length tc)).cell? ⟨wr.heap.size, 3, none⟩ = some (.slice ta xs.ts.length tc) := cell_at HP.out rfl
        have cT0 := cT (wr.alloc (boxP xs ta xs.ts.length tc)).drew (b_drewK HBA.out 1)
        have HOX : Hid (∀ W, Below (wr.alloc (boxP xs ta xs.ts.length tc)).drew.heap.size (wr.alloc (boxP xs ta xs.ts.length tc)).drew W → W.ownsRow w.heap.size 9 1 u5 (wds ((M.map Sp.st).take k)).length (wcells (wds ((M.map Sp.st).take k))) ∧ Below w.heap.size w W ∧ W.cell? ⟨wr.heap.size, 2, none⟩ = some (.string (bs xs.kd)) ∧ W.cell? ⟨wr.heap.size, 3, none⟩ = some (.slice ta xs.ts.length tc)) := fun W hW =>
          have hW' : Below (wr.alloc (boxP xs ta xs.ts.length tc)).heap.size (wr.alloc (boxP xs ta xs.ts.length tc)) W := ⟨hW.os, hW.tape, hW.output, hW.size, hW.block⟩
          ⟨own_kt (HO.out.alloc _) (Kt.of_below hW'), on1 HBA.out hW', (hW'.cell (by simp)).trans q2, (hW'.cell (by simp)).trans q3⟩
        have HC : Hid (∀ (W1 w1 : World) (o : Obj), W1.cell? ⟨wr.heap.size, 2, none⟩ = some (.string (bs xs.kd)) → W1.cell? ⟨wr.heap.size, 3, none⟩ = some (.slice ta xs.ts.length tc) → (W1.alloc o).grownBy w1 u5.ownBlock → w1.cell? ⟨wr.heap.size, 2, none⟩ = some (.string (bs xs.kd)) ∧ w1.cell? ⟨wr.heap.size, 3, none⟩ = some (.slice ta xs.ts.length tc)) := fun W1 w1 o h2 h3 hg =>
          have hne : some wr.heap.size ≠ u5.ownBlock := fun e => by have := (HO.out.lt _ e.symm).2; omega
          ⟨hg.cell (cell_old h2 o) hne, hg.cell (cell_old h3 o) hne⟩
        clear cT cB hB
        go_wp2
        first | (go_region_held_law (fun w' => w'.cell? ⟨wr.heap.size, 2, none⟩ = some (.string (bs xs.kd)) ∧ w'.cell? ⟨wr.heap.size, 3, none⟩ = some (.slice ta xs.ts.length tc)) (go_keep) (first | (refine step_append_own rfl (.tmp 27) (.tmp 34) 49 rfl w.heap.size 9 i0 _ 1 16 Tryz.underlying49 hi0 hz0 hz1 hz2 rfl (by decide) u5 _ _ (by simp [Act.eval, Act.put]) (HO1.out.alloc _) ⟨W1.heap.size, 0, none⟩ 1 1 [.string (bs z1)] (by simp [Act.eval, Act.put]) rfl (cell_new1 W1 _) (cell_one1 _) (HM.out _ (Nat.le_trans HWL.out (by decide))).1 (HM.out _ (Nat.le_trans HWL.out (by decide))).2 (by have := HB1.out.size; simp; omega) ?_; intro v1 w1 hown2 hgrow; obtain ⟨t2, t3⟩ := HC.out W1 w1 _ r2 r3 hgrow; have HOW := Lib.hid hown2; have HGW := Lib.hid hgrow; clear hown2 hgrow) | (go_simp; go_at_call 15; refine cT0.mono ?_; rintro e W1 ⟨rfl, hB1⟩; obtain ⟨ho1, hb1, r2, r3⟩ := HOX.out W1 hB1; have HO1 := Lib.hid ho1; have HB1 := Lib.hid hb1; clear ho1 hb1 hB1))) | fail
        have R : PP w (M.map Sp.st) v1 (.int .i64 ((k : Int) + 1)) w1 := ⟨k + 1, by simp; omega, by go_num, by rw [HW.out, List.length_append, wcells_app]; exact HOW.out, below_grown (b_alloc HB1.out _) HGW.out (b_alloc HB1.out _).size (fun j hj => (HO1.out.lt j hj).1)⟩
        go_wp2
        refine ⟨?_, ?_⟩
        · first
            | exact R
            | ((repeat apply Exists.intro)
               refine ⟨?_, rfl⟩
               exact R)
        · simp [intOf]; omega
    · obtain rfl : k = M.length := by omega
      have hown := HO.out
      rw [show (M.map Sp.st).take M.length = M.map Sp.st from List.take_of_length_le (by simp)] at hown
      have hwp : 0 < (wds (M.map Sp.st)).length := by
        cases M with
        | nil => simp at hpos
        | cons a r => simp [wds]
      have cj := joinB hown hwp (by have := wds_len (M.map Sp.st); simp at this; omega) 32 (fun x hx => Nat.le_trans (wds_mem HK.out.1 x hx) (by decide))
      have HA : Hid (Lib.join (wds (M.map Sp.st)) [32] = askT (M.map Sp.st)) := rfl
      rw [HA.out] at cj
      clear hown HO hwp HA
      go_wp2_with (go_at_call 16; refine cj.mono ?_; rintro e W1 ⟨rfl, hB1⟩)
      go_ret2
      exact ⟨rfl, on1 hB hB1⟩
end Go.Proofs.YtmgkdghkenpmbaaGreatDoor
