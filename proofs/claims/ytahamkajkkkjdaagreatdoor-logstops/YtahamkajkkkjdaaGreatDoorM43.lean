import Derived.Test.YtahamkajkkkjdaaGreatDoorM42
import Derived.Test.YtahamkajkkkjdaaGreatDoorM40
import Derived.Test.YtahamkajkkkjdaaGreatDoorM41
import Derived.Deep.RegionHeld
import Derived.Test.YtahamkajkkkjdaaGreatDoorM26
import Derived.Laws.StructEq
import Derived.BigQuiet
import Derived.Deep.RegionHeld3
import Derived.Laws.CopyOwn
namespace Go.Proofs.YtahamkajkkkjdaaGreatDoor
open Go.RowKit
set_option linter.unusedVariables false
set_option linter.unusedSimpArgs false
def kdsA (L : List Kd) (c : Ch) : List Nm := if c.wh = 3 ∨ c.wh = 4 ∨ c.wh = 7 then under L c.nm else []
theorem under_le (L : List Kd) (a : Nm) : (under L a).length ≤ L.length := by
  have := unds_len L a (List.range L.length)
  simpa [under] using this
theorem kdsA_le (L : List Kd) (c : Ch) : (kdsA L c).length ≤ L.length := by
  unfold kdsA
  split
  · exact under_le L c.nm
  · simp
theorem one_err (L : List Kd) (B : List Bd) (c : Ch) : (allA L B [c]).1 = doE L B c := by
  rw [allA_one]
  unfold doE
  split
  · split
    · rename_i h; exact h.symm
    · rfl
  · rfl
theorem info25u : (Tryz.prog.info? 34).map (fun i => i.size) = some 2 := by kernel_rfl
set_option maxHeartbeats 4000000 in
set_option maxRecDepth 100000 in
theorem ckinds_any {w : World} {vk vb : Value} {L : List Kd} {B : List Bd} (c : Ch) (hK : IsK w vk L) (hP : Parts w L) (hz : SzK L) (hb : IsB w vb B) (hzb : SzB B) (hc : ChIs w c) (hcz : ChSz c) :
    Calls Tryz.prog 134 #[.agg #[vk, vb], c.one] w fun e w' => ∃ v, e = .returned (.tuple #[v, errV (doE L B c)]) ∧ w'.ownsRow w.heap.size 9 1 v (if doE L B c = 0 then kdsA L c else []).length (cellsS (if doE L B c = 0 then kdsA L c else [])) ∧ Below w.heap.size w w' := by
  have hd : ∀ W, Below w.heap.size w W → Calls Tryz.prog 51 #[.agg #[vk, vb], c.one] W fun e w' => ∃ uk ub, e = .returned (.tuple #[.agg #[uk, ub], errV (doE L B c)]) ∧ uk.oneCell' = true ∧ ub.oneCell' = true ∧ Below W.heap.size W w' := fun W h => (do_any c (hK.on h) (hP.on h) hz (hb.on h) hzb (hc.on h) hcz).mono (by
    rintro e w' ⟨uk, ub, M, he, h1, h2, h3, h4⟩
    rw [one_err] at he
    refine ⟨uk, ub, he, ?_, ?_, h4⟩
    · obtain ⟨a, c, e⟩ := own_slice h2.1; rw [e]; rfl
    · obtain ⟨a, c, e⟩ := own_slice h3; rw [e]; rfl)
  have hw1 : c.wh = 1 := hcz.wh1
  obtain ⟨wh, nm, ⟨kn, ko, kf, vo, vf⟩, ⟨bn, bf, bt, mn, mx⟩, ⟨fn, ft, fm, fk⟩, vt, vn, vs, tn⟩ := c
  obtain ⟨a1, c1, rfl, _⟩ := hK.sln
  obtain ⟨a2, c2, rfl, _⟩ := hb.sln
  obtain ⟨ao, lo1, co, q1⟩ := hc.1.sl
  obtain ⟨af, lf1, cf, q2⟩ := hc.2.sl
  simp only at q1 q2 hc hcz hw1 ⊢
  subst q1 q2
  obtain ⟨W0, hW0⟩ : ∃ W0, W0 = (w.alloc (.cells #[.slice a1 L.length c1, .slice a2 B.length c2] 34)).alloc (.cells #[.int .i64 wh, .string (bs nm), .string (bs kn), .slice ao lo1 co, .slice af lf1 cf, .string (bs bn), .string (bs bf), .string (bs bt), .int .i64 mn, .int .i64 mx, .string (bs fn), .int .i64 ft, .bool fm, .bool fk, .int .i64 vt, .int .i64 vn, .string (bs vs), .string (bs tn)] 58) := ⟨_, rfl⟩
  have hB0 : Below w.heap.size w W0 := by rw [hW0]; exact b_alloc (b_alloc (Below.refl _ _) _) _
  have n0 : W0.heap[w.heap.size]? = some (.cells #[.slice a1 L.length c1, .slice a2 B.length c2] 34 (0, 0)) := by rw [hW0]; exact (heap_alloc_old _ _ (by simp)).trans (heap_alloc_new w _)
  have n1 : W0.heap[w.heap.size + 1]? = some (.cells #[.int .i64 wh, .string (bs nm), .string (bs kn), .slice ao lo1 co, .slice af lf1 cf, .string (bs bn), .string (bs bf), .string (bs bt), .int .i64 mn, .int .i64 mx, .string (bs fn), .int .i64 ft, .bool fm, .bool fk, .int .i64 vt, .int .i64 vn, .string (bs vs), .string (bs tn)] 58 (0, 0)) := by
    have := heap_alloc_new (w.alloc (.cells #[.slice a1 L.length c1, .slice a2 B.length c2] 34)) (.cells #[.int .i64 wh, .string (bs nm), .string (bs kn), .slice ao lo1 co, .slice af lf1 cf, .string (bs bn), .string (bs bf), .string (bs bt), .int .i64 mn, .int .i64 mx, .string (bs fn), .int .i64 ft, .bool fm, .bool fk, .int .i64 vt, .int .i64 vn, .string (bs vs), .string (bs tn)] 58)
    rw [World.size_alloc] at this; rw [hW0]; exact this
  rw [show (⟨wh, nm, ⟨kn, ko, kf, .slice ao lo1 co, .slice af lf1 cf⟩, ⟨bn, bf, bt, mn, mx⟩, ⟨fn, ft, fm, fk⟩, vt, vn, vs, tn⟩ : Ch).one = .agg #[.int .i64 wh, .string (bs nm), .string (bs kn), .slice ao lo1 co, .slice af lf1 cf, .string (bs bn), .string (bs bf), .string (bs bt), .int .i64 mn, .int .i64 mx, .string (bs fn), .int .i64 ft, .bool fm, .bool fk, .int .i64 vt, .int .i64 vn, .string (bs vs), .string (bs tn)] from rfl] at hd
  generalize hE : doE L B ⟨wh, nm, ⟨kn, ko, kf, .slice ao lo1 co, .slice af lf1 cf⟩, ⟨bn, bf, bt, mn, mx⟩, ⟨fn, ft, fm, fk⟩, vt, vn, vs, tn⟩ = E at hd ⊢
  generalize hKd : kdsA L ⟨wh, nm, ⟨kn, ko, kf, .slice ao lo1 co, .slice af lf1 cf⟩, ⟨bn, bf, bt, mn, mx⟩, ⟨fn, ft, fm, fk⟩, vt, vn, vs, tn⟩ = F
  generalize hF2 : (if E = 0 then F else []) = F2
  have HF2 := Lib.hid hF2
  have cD := hd W0 hB0
  have HN : Hid (∀ W1 W2, Below W0.heap.size W0 W1 → Below W1.heap.size W1 W2 → Below w.heap.size w W2) := fun W1 W2 h1 h2 => on1K (on1K hB0 h1 (Nat.le_refl _)) h2 (Nat.le_refl _)
  have HX : Hid (∀ W1, Below W0.heap.size W0 W1 → W1.heap[w.heap.size]? = some (.cells #[.slice a1 L.length c1, .slice a2 B.length c2] 34 (0, 0)) ∧ W1.heap[w.heap.size + 1]? = some (.cells #[.int .i64 wh, .string (bs nm), .string (bs kn), .slice ao lo1 co, .slice af lf1 cf, .string (bs bn), .string (bs bf), .string (bs bt), .int .i64 mn, .int .i64 mx, .string (bs fn), .int .i64 ft, .bool fm, .bool fk, .int .i64 vt, .int .i64 vn, .string (bs vs), .string (bs tn)] 58 (0, 0))) := fun W1 h => ⟨(h.block _ (Array.getElem?_eq_some_iff.1 n0).1).trans n0, (h.block _ (Array.getElem?_eq_some_iff.1 n1).1).trans n1⟩
  have s0 : W0.cell? ⟨w.heap.size, 0, none⟩ = some (.slice a1 L.length c1) := cell_at n0 rfl
  have s1 : W0.cell? ⟨w.heap.size, 1, none⟩ = some (.slice a2 B.length c2) := cell_at n0 rfl
  have d0 : W0.cell? ⟨w.heap.size + 1, 0, none⟩ = some (.int .i64 wh) := cell_at n1 rfl
  have d1 : W0.cell? ⟨w.heap.size + 1, 1, none⟩ = some (.string (bs nm)) := cell_at n1 rfl
  have d2 : W0.cell? ⟨w.heap.size + 1, 2, none⟩ = some (.string (bs kn)) := cell_at n1 rfl
  have d3 : W0.cell? ⟨w.heap.size + 1, 3, none⟩ = some (.slice ao lo1 co) := cell_at n1 rfl
  have d4 : W0.cell? ⟨w.heap.size + 1, 4, none⟩ = some (.slice af lf1 cf) := cell_at n1 rfl
  have d5 : W0.cell? ⟨w.heap.size + 1, 5, none⟩ = some (.string (bs bn)) := cell_at n1 rfl
  have d6 : W0.cell? ⟨w.heap.size + 1, 6, none⟩ = some (.string (bs bf)) := cell_at n1 rfl
  have d7 : W0.cell? ⟨w.heap.size + 1, 7, none⟩ = some (.string (bs bt)) := cell_at n1 rfl
  have d8 : W0.cell? ⟨w.heap.size + 1, 8, none⟩ = some (.int .i64 mn) := cell_at n1 rfl
  have d9 : W0.cell? ⟨w.heap.size + 1, 9, none⟩ = some (.int .i64 mx) := cell_at n1 rfl
  have d10 : W0.cell? ⟨w.heap.size + 1, 10, none⟩ = some (.string (bs fn)) := cell_at n1 rfl
  have d11 : W0.cell? ⟨w.heap.size + 1, 11, none⟩ = some (.int .i64 ft) := cell_at n1 rfl
  have d12 : W0.cell? ⟨w.heap.size + 1, 12, none⟩ = some (.bool fm) := cell_at n1 rfl
  have d13 : W0.cell? ⟨w.heap.size + 1, 13, none⟩ = some (.bool fk) := cell_at n1 rfl
  have d14 : W0.cell? ⟨w.heap.size + 1, 14, none⟩ = some (.int .i64 vt) := cell_at n1 rfl
  have d15 : W0.cell? ⟨w.heap.size + 1, 15, none⟩ = some (.int .i64 vn) := cell_at n1 rfl
  have d16 : W0.cell? ⟨w.heap.size + 1, 16, none⟩ = some (.string (bs vs)) := cell_at n1 rfl
  have d17 : W0.cell? ⟨w.heap.size + 1, 17, none⟩ = some (.string (bs tn)) := cell_at n1 rfl
  have HE := Lib.hid hw1
  have HKd := Lib.hid hKd
  have HB := Lib.hid hB0
  clear hd hw1 hK hP hz hb hzb hc hcz n0 n1 hB0 hE hKd hF2
  go_enter Tryz.func134, Tryz.ntmps134
  go_upto_region 1 with fail
  rw [← hW0]
  clear hW0
  go_upto_region 2 with (first | (go_at_call 51; refine cD.mono ?_; rintro e W1 ⟨uk, ub, rfl, o1, o2, hB1⟩) | (refine wpList_store_new rfl 34 (.tmp 6) (.tmp 12) rfl _ _ rfl rfl info25u rfl (by simp [o1, o2]) ?_))
  have hBa : Below W1.heap.size W1 (W1.alloc (.cells #[uk, ub] 34)) := b_alloc (Below.refl _ _) _
  obtain ⟨m0, m1⟩ := HX.out _ (on1K hB1 hBa (Nat.le_refl _))
  have HBw := Lib.hid (HN.out _ _ hB1 hBa)
  generalize W1.alloc (.cells #[uk, ub] 34) = W2 at m0 m1 HBw hBa ⊢
  have s2 : W2.cell? ⟨w.heap.size, 0, none⟩ = some (.slice a1 L.length c1) := cell_at m0 rfl
  have s3 : W2.cell? ⟨w.heap.size + 1, 0, none⟩ = some (.int .i64 wh) := cell_at m1 rfl
  have s4 : W2.cell? ⟨w.heap.size + 1, 1, none⟩ = some (.string (bs nm)) := cell_at m1 rfl
  clear cD s0 s1 d0 d1 d2 d3 d4 d5 d6 d7 d8 d9 d10 d11 d12 d13 d14 d15 d16 d17 HN HX m0 m1 hBa hB1
  by_cases h0 : E = 0
  · subst h0
    have hF1 : F2 = F := HF2.out.symm.trans (if_pos rfl)
    rw [errV_0]
    have hw : ¬ (wh = 3 ∨ wh = 4 ∨ wh = 7) := by have := HE.out; omega
    have hF : Hid (F2 = []) := hF1.trans (HKd.out.symm.trans (if_neg hw))
    have h3 : ¬ wh = 3 := fun e => hw (.inl e)
    have h4 : ¬ wh = 4 := fun e => hw (.inr (.inl e))
    have h7 : ¬ wh = 7 := fun e => hw (.inr (.inr e))
    clear HE HKd hF1 HF2 hw
    go_wp2
    go_ret2
    exact ⟨_, rfl, by rw [hF.out]; exact World.ownsRow_nil _ _ _ _, HBw.out⟩
  · have hF : Hid (F2 = []) := HF2.out.symm.trans (if_neg h0)
    have HE0 := Lib.hid h0
    rw [errV_ne h0]
    clear HE HKd h0 HF2
    go_wp2
    go_ret2
    exact ⟨.slice none 0 0, ret_v (by rw [errV_ne HE0.out]; rfl), by rw [hF.out]; exact World.ownsRow_nil _ _ _ _, HBw.out⟩
def drp (c : Ch) : ByteArray := if c.wh = 6 then bs c.nm else ⟨#[]⟩
structure Mv (w1 w : World) (p : Nat) (c : Ch) (K : List Nm) (L : List Kd) (B : List Bd) (N : List Nd) (T : List Te) (M : List Nd) (k : Nat) (uk ub ks fn vn vt vm : Value) : Prop where
  hp : w.heap[p]? = some (.cells #[uk, ub, ks, fn, .string (drp c), vn, vt, vm, .int .i64 k] 226 (0, 0))
  hge : w1.heap.size ≤ p
  hB : Below w1.heap.size w1 w
  hK : IsK w1 uk L
  hP : Parts w1 L
  hb : IsB w1 ub B
  hks : IsS w1 ks K
  hT : Turns w1 c fn
  hN : IsN w1 vn N
  hTt : IsT w1 vt T
  hnow : w.ownsRow w1.heap.size 40 3 vm N.length (cellsN M)
  hlen : M.length = N.length
  hk : k ≤ N.length
  hold : ∀ i n, k ≤ i → M[i]? = some n → N[i]? = some n
  hnew : ∀ i n, i < k → M[i]? = some n → OwnRc w w1.heap.size n.rv n.rc
  hc : cN (M.take k) = (N.take k).map (ndT c K)
  hx : allX c K (N.take k) = 0
theorem IsN.recAt {w : World} {v : Value} {N : List Nd} (h : IsN w v N) {n : Nd} (hn : n ∈ N) : IsR w n.rv n.rc := by
  obtain ⟨ao, c, _, _, h0 | ⟨b, off, _, _, hL⟩⟩ := h
  · rw [h0] at hn; cases hn
  · obtain ⟨k, hk⟩ := List.getElem?_of_mem hn
    exact (hL k n hk).2.2.2
section
variable {w1 w : World} {p : Nat} {c : Ch} {K : List Nm} {L : List Kd} {B : List Bd} {N : List Nd} {T : List Te} {M : List Nd} {k : Nat} {uk ub ks fn vn vt vm : Value}
theorem Mv.on (h : Mv w1 w p c K L B N T M k uk ub ks fn vn vt vm) {w' : World} (hB : Below w.heap.size w w') : Mv w1 w' p c K L B N T M k uk ub ks fn vn vt vm :=
  ⟨(hB.block p (Array.getElem?_eq_some_iff.1 h.hp).1).trans h.hp, h.hge, on1K h.hB hB (Nat.le_refl _), h.hK, h.hP, h.hb, h.hks, h.hT, h.hN, h.hTt, own_kt h.hnow (.of_below hB), h.hlen, h.hk, h.hold, fun i n hi hn => (h.hnew i n hi hn).kt (.of_below hB), h.hc, h.hx⟩
theorem Mv.isR (h : Mv w1 w p c K L B N T M k uk ub ks fn vn vt vm) : ∀ n ∈ M, IsR w n.rv n.rc := fun n hn => by
  obtain ⟨i, hi⟩ := List.getElem?_of_mem hn
  by_cases hik : i < k
  · exact (h.hnew i n hik hi).isR
  · exact (h.hN.recAt (List.mem_of_getElem? (h.hold i n (by omega) hi))).on h.hB
theorem Mv.isN (h : Mv w1 w p c K L B N T M k uk ub ks fn vn vt vm) : IsN w vm M := own_isN (by rw [h.hlen]; exact h.hnow) h.isR
theorem Mv.sl (h : Mv w1 w p c K L B N T M k uk ub ks fn vn vt vm) : (∃ a l c', uk = .slice a l c') ∧ (∃ a l c', ub = .slice a l c') ∧ (∃ a l c', ks = .slice a l c') ∧ (∃ a l c', vn = .slice a l c') ∧ (∃ a l c', vt = .slice a l c') ∧ (∃ a c', vm = .slice a N.length c') ∧ fn.oneCell' = true := by
  refine ⟨?_, ?_, ?_, ?_, ?_, own_slice h.hnow, h.hT.one⟩
  · obtain ⟨a, c, e, _⟩ := h.hK.sln; exact ⟨a, _, c, e⟩
  · obtain ⟨a, c, e, _⟩ := h.hb.sln; exact ⟨a, _, c, e⟩
  · exact h.hks.sl
  · obtain ⟨a, c, e, _⟩ := h.hN; exact ⟨a, _, c, e⟩
  · obtain ⟨a, c, e, _⟩ := h.hTt; exact ⟨a, _, c, e⟩
set_option maxHeartbeats 1000000 in
theorem left_any (h : Mv w1 w p c K L B N T M k uk ub ks fn vn vt vm) (hl : N.length ≤ 1000) :
    Calls Tryz.prog 103 #[.pointer (some ⟨p, 0, none⟩)] w fun e w' => e = .returned (.int .i64 ((N.length : Int) - k)) ∧ Below w.heap.size w w' := by
  obtain ⟨_, _, _, _, _, ⟨a, c', rfl⟩, _⟩ := h.sl
  have hk := h.hk
  have c7 : w.cell? ⟨p, 7, none⟩ = some (.slice a N.length c') := cell_at h.hp rfl
  have c8 : w.cell? ⟨p, 8, none⟩ = some (.int .i64 k) := cell_at h.hp rfl
  have hw : IntKind.i64.wrap ((N.length : Int) - k) = (N.length : Int) - k := by rw [IntKind.wrap_i64]; omega
  clear h
  go_enter Tryz.func103, Tryz.ntmps103
  go_upto_region 1 with fail
  go_quiet (fail)
  go_wp2
  go_ret
  exact ⟨rfl, b_drewK (Below.refl _ _) _⟩
end
set_option maxHeartbeats 2000000 in
theorem restart_any {w : World} {base p : Nat} {x0 x1 x2 x3 x4 vn vt vm vk : Value} {N : List Nd} (hp : w.heap[p]? = some (.cells #[x0, x1, x2, x3, x4, vn, vt, vm, vk] 226 (0, 0))) (hbp : base ≤ p) (hbase : base ≤ w.heap.size) (hN : IsN w vn N) (hl : N.length ≤ 1000) :
    Calls Tryz.prog 102 #[.pointer (some ⟨p, 0, none⟩)] w fun e w' => ∃ u, e = .returned (.tuple #[]) ∧ w'.heap[p]? = some (.cells #[x0, x1, x2, x3, x4, vn, vt, u, .int .i64 0] 226 (0, 0)) ∧ w'.ownsRow base 40 3 u N.length (cellsN N) ∧ Below base w w' ∧ (∀ b, b < w.heap.size → b ≠ p → w'.heap[b]? = w.heap[b]?) := by
  have cl := fun ty => clone_nodes w base hbase hN hl ty
  obtain ⟨a, c', e, _⟩ := hN
  subst e
  have c5 : w.cell? ⟨p, 5, none⟩ = some (.slice a N.length c') := cell_at hp rfl
  have HP : Hid (∀ v1 W1, W1.ownsRow base 40 3 v1 N.length (cellsN N) → w.grownBy W1 none → (W1.cell? ⟨p, 7, none⟩ = some vm ∧ W1.frozen? ⟨p, 7, none⟩ = false) ∧ ((W1.setCell ⟨p, 7, none⟩ v1).cell? ⟨p, 8, none⟩ = some vk ∧ (W1.setCell ⟨p, 7, none⟩ v1).frozen? ⟨p, 8, none⟩ = false) ∧ ∀ W2, W2 = (W1.setCell ⟨p, 7, none⟩ v1).setCell ⟨p, 8, none⟩ (.int .i64 0) → W2.heap[p]? = some (.cells #[x0, x1, x2, x3, x4, .slice a N.length c', vt, v1, .int .i64 0] 226 (0, 0)) ∧ W2.ownsRow base 40 3 v1 N.length (cellsN N) ∧ Below base w W2 ∧ (∀ b, b < w.heap.size → b ≠ p → W2.heap[b]? = w.heap[b]?)) := fun v1 W1 ho hg => by
    have y := (hg.block p (Array.getElem?_eq_some_iff.1 hp).1 (by simp)).trans hp
    have y1 := heap_setCell_same W1 p 7 _ 226 v1 y
    refine ⟨⟨cell_at y rfl, frz_at y⟩, ⟨cell_at y1 rfl, frz_at y1⟩, fun W2 hW2 => ?_⟩
    have y2 : W2.heap[p]? = some (.cells #[x0, x1, x2, x3, x4, .slice a N.length c', vt, v1, .int .i64 0] 226 (0, 0)) := by rw [hW2]; exact heap_setCell_same _ p 8 _ 226 _ y1
    refine ⟨y2, ?_, ?_, fun b hb hne => by rw [hW2]; exact (heap_setCell_other _ ⟨p, 8, none⟩ b _ hne).trans ((heap_setCell_other _ ⟨p, 7, none⟩ b _ hne).trans (hg.block b hb (by simp)))⟩
    · rw [hW2]; exact own_kt ho (((Kt.refl _ _).ty ⟨_, y⟩ (by decide) _ _).ty ⟨_, y1⟩ (by decide) _ _)
    · rw [hW2]; exact ((below_grown (Below.refl _ _) hg hbase (fun k hk => by cases hk)).setCell hbp _).setCell hbp _
  clear hp
  go_enter Tryz.func102, Tryz.ntmps102
  go_wp2_with (at_builtin; refine wpList_append_E rfl _ _ 64 rfl _ _ rfl rfl (cl _) ?_; rintro v1 W1 ⟨hown, hgrow⟩; obtain ⟨⟨q1, q2⟩, ⟨q3, q4⟩, hR⟩ := HP.out v1 W1 hown hgrow; obtain ⟨a1, p1, rfl⟩ := own_slice hown; have HR := Lib.hid hR; clear hR hown hgrow)
  go_end0
  obtain ⟨r1, r2, r3, r4⟩ := HR.out _ rfl
  exact ⟨_, rfl, r1, r2, r3, r4⟩
set_option maxHeartbeats 1000000 in
theorem wties_any {w : World} {base : Nat} {v uk ub ks fn : Value} {T : List Te} (dr : ByteArray) (h : OwnTs w base v T) (hn : T.length ≤ 1000) (hbase : base ≤ w.heap.size) :
    Calls Tryz.prog 138 #[.agg #[uk, ub, ks, fn, .string dr], v] w fun e w' => ∃ v', e = .returned v' ∧ OwnTs w' base v' (T.filter (keepB dr)) ∧ (∀ b, b < w.heap.size → v.ownBlock ≠ some b → w'.heap[b]? = w.heap[b]?) ∧ Below base w w' := by
  have hB : Below w.heap.size w (w.alloc (.cells #[uk, ub, ks, fn, .string dr] 222)) := b_alloc (Below.refl _ _) _
  have n0 : (w.alloc (.cells #[uk, ub, ks, fn, .string dr] 222)).heap[w.heap.size]? = some (.cells #[uk, ub, ks, fn, .string dr] 222 (0, 0)) := heap_alloc_new w _
  have o2 := OwnTs.kt h (.of_below hB)
  have c := deleteTb_any o2 hn w.heap.size dr (by simp) (cell_at n0 rfl) (row_apart o2 n0 (by decide))
  have HB : Hid (Below w.heap.size w (w.alloc (.cells #[uk, ub, ks, fn, .string dr] 222)) ∧ OwnTs (w.alloc (.cells #[uk, ub, ks, fn, .string dr] 222)) base v T) := ⟨hB, o2⟩
  obtain ⟨ao, cp, rfl⟩ := own_slice h
  clear hB n0 o2
  go_enter Tryz.func138, Tryz.ntmps138
  go_wp2_with (go_at_call 146; refine c.mono ?_; rintro e w1 ⟨v1, rfl, h1, h2⟩)
  go_ret
  exact ⟨v1, rfl, h1, fun b hb hne => (h2.block b (Nat.lt_of_lt_of_le hb HB.out.1.size) (fun e => hne e.symm)).trans (HB.out.1.block b hb), below_grown (HB.out.1.mono hbase) h2 (Nat.le_trans hbase HB.out.1.size) (fun k hk => (HB.out.2.lt k hk).1)⟩
section
variable {w1 w : World} {p : Nat} {c : Ch} {K : List Nm} {L : List Kd} {B : List Bd} {N : List Nd} {T : List Te} {M : List Nd} {k : Nat} {uk ub ks fn vn vt vm : Value}
set_option maxHeartbeats 4000000 in
set_option maxRecDepth 100000 in
theorem mgraph_any (h : Mv w1 w p c K L B N T M k uk ub ks fn vn vt vm) (hl : N.length ≤ 60) (ht : T.length ≤ 120) (hr : ∀ n ∈ M, n.rc.length ≤ 1000) :
    Calls Tryz.prog 137 #[.pointer (some ⟨p, 0, none⟩)] w fun e w' => ∃ un ut X, e = .returned (.agg #[un, ut]) ∧ cN X = cN M ∧ OwnNs w' w.heap.size un X ∧ OwnTs w' w.heap.size ut T ∧ Below w.heap.size w w' := by
  obtain ⟨W0, hW0⟩ : ∃ W0, W0 = w.alloc (.cells #[.slice none 0 0, .slice none 0 0] 67) := ⟨_, rfl⟩
  have hB0 : Below w.heap.size w W0 := by rw [hW0]; exact b_alloc (Below.refl _ _) _
  have n0 : W0.heap[w.heap.size]? = some (.cells #[.slice none 0 0, .slice none 0 0] 67 (0, 0)) := by rw [hW0]; exact heap_alloc_new w _
  have h0 := h.on hB0
  have cc := copied_any (h0.isN.on (b_drew (Below.refl _ W0))) ((h0.hTt.on h0.hB).on (b_drew (Below.refl _ W0))) (by rw [h.hlen]; exact hl) ht hr
  obtain ⟨_, _, _, _, ⟨t1, t2, t3, rfl⟩, ⟨a, c', rfl⟩, _⟩ := h.sl
  have c6 : W0.cell? ⟨p, 6, none⟩ = some (.slice t1 t2 t3) := cell_at h0.hp rfl
  have c7 : W0.cell? ⟨p, 7, none⟩ = some (.slice a N.length c') := cell_at h0.hp rfl
  have hnp : ¬ w.heap.size = p := by have := (Array.getElem?_eq_some_iff.1 h.hp).1; omega
  have hpw : p < W0.heap.size := (Array.getElem?_eq_some_iff.1 h0.hp).1
  have HC : Hid (∀ W1, Below W0.heap.size W0 W1 → (W1.cell? ⟨p, 6, none⟩ = some (.slice t1 t2 t3) ∧ W1.cell? ⟨p, 7, none⟩ = some (.slice a N.length c')) ∧ W1.heap[w.heap.size]? = some (.cells #[.slice none 0 0, .slice none 0 0] 67 (0, 0))) := fun W1 hB => ⟨⟨(hB.cell hpw).trans c6, (hB.cell hpw).trans c7⟩, (hB.block _ (Array.getElem?_eq_some_iff.1 n0).1).trans n0⟩
  have HB := Lib.hid hB0
  clear h h0 hB0 n0
  go_enter Tryz.func137, Tryz.ntmps137
  go_upto_region 1 with fail
  rw [← hW0]
  clear hW0
  go_region_held (fun w' => w'.cell? ⟨p, 6, none⟩ = some (.slice t1 t2 t3) ∧ w'.cell? ⟨p, 7, none⟩ = some (.slice a N.length c')) (go_keep) (first | (go_at_call 76; refine cc.mono ?_; rintro e W1 ⟨un, ut, X, rfl, hX, hO, hOt, hB1'⟩; have hB1 := b_undrew hB1'; obtain ⟨⟨x6, x7⟩, x0⟩ := HC.out W1 hB1; obtain ⟨a1, l1, rfl⟩ := own_slice hO.1; obtain ⟨a2, l2, rfl⟩ := own_slice hOt; have y0 : W1.cell? ⟨w.heap.size, 0, none⟩ = some (.slice none 0 0) := cell_at x0 rfl; have y1 : W1.cell? ⟨w.heap.size, 1, none⟩ = some (.slice none 0 0) := cell_at x0 rfl; have f0 : W1.frozen? ⟨w.heap.size, 0, none⟩ = false := frz_at x0; have f1 : W1.frozen? ⟨w.heap.size, 1, none⟩ = false := frz_at x0; have HX := Lib.hid (And.intro hX (And.intro hO (And.intro hOt (And.intro hB1 x0)))); clear hX hO hOt hB1 hB1' x0))
  all_goals
    go_wp2
    obtain ⟨hX, hO, hOt, hB1, x0⟩ := HX.out
    have t1 : ((W1.setCell ⟨w.heap.size, 0, none⟩ (.slice a1 X.length l1)).setCell ⟨w.heap.size, 1, none⟩ (.slice a2 T.length l2)).heap[w.heap.size]? = some (.cells #[.slice a1 X.length l1, .slice a2 T.length l2] 67 (0, 0)) := heap_setCell_same _ _ 1 _ 67 _ (heap_setCell_same W1 _ 0 _ 67 _ x0)
    have t2 := cell_at (i := 0) t1 rfl
    have t3 := cell_at (i := 1) t1 rfl
    have kk : ∀ t : TypeId, (67 : TypeId) ≠ t → Kt t W1 ((W1.setCell ⟨w.heap.size, 0, none⟩ (.slice a1 X.length l1)).setCell ⟨w.heap.size, 1, none⟩ (.slice a2 T.length l2)) := fun t hne => ((Kt.refl _ _).ty ⟨_, x0⟩ hne _ _).ty (Ty.set ⟨_, x0⟩ _ _ _) hne _ _
    refine bodyPost_ret (v := .agg #[.slice a1 X.length l1, .slice a2 T.length l2]) ?_ rfl ⟨_, _, X, rfl, hX, ?_, ?_, ?_⟩
    · simp [results, Tryz.results137, go_sem, t2, t3]
    · exact ⟨own_base (own_kt hO.1 (kk _ (by decide))) HB.out.size, fun n hn => own_base ((hO.2 n hn).kt (kk _ (by decide))) HB.out.size⟩
    · exact own_base (hOt.kt (kk _ (by decide))) HB.out.size
    · exact ((on1K HB.out hB1 (Nat.le_refl _)).setCell (Nat.le_refl _) _).setCell (Nat.le_refl _) _
end
def stE (c : Ch) (K : List Nm) (N : List Nd) (k : Nat) (n : Int) : Int := if n < 1 ∨ 60 < n then 1 else if k = N.length then 6 else allX c K ((N.drop k).take n.toNat)
def stK (N : List Nd) (k : Nat) (n : Int) : Nat := k + min n.toNat (N.length - k)
theorem setRow_kt {w : World} {g : Nat} {cur r : Array Value} {t t' : TypeId} (h : w.heap[g]? = some (.cells cur t' (0, 0))) (hne : t' ≠ t) : Kt t w (w.setRow g r) := Kt.of_grown h hne (setRow_grown w g r)
section
variable {w1 w : World} {p : Nat} {c : Ch} {K : List Nm} {L : List Kd} {B : List Bd} {N : List Nd} {T : List Te} {M : List Nd} {k : Nat} {uk ub ks fn vn vt vm : Value}
theorem mv_copy (h : Mv w1 w p c K L B N T M k uk ub ks fn vn vt vm) {W2 : World} (hB : Below w.heap.size w W2) {g cap m : Nat} (hvm : vm = .slice (some ⟨g, 0, none⟩) N.length cap) {X : List Nd} (hX : cN X = ((N.drop k).take m).map (ndT c K)) (hkm : k + m ≤ N.length) (hO : ∀ n ∈ X, OwnRc W2 w.heap.size n.rv n.rc) (hz : allX c K ((N.drop k).take m) = 0) :
    ∃ cur : Array Value, W2.heap[g]? = some (.cells cur 40 (0, 0)) ∧ k * 3 + (cellsN X).length ≤ cur.size ∧ X.length = m ∧ ∀ W3, W3 = W2.setRow g (lay cur.toList (k * 3) (cellsN X)).toArray → (W3.cell? ⟨p, 8, none⟩ = some (.int .i64 k) ∧ W3.frozen? ⟨p, 8, none⟩ = false) ∧ ∀ W4, W4 = W3.setCell ⟨p, 8, none⟩ (.int .i64 ((k : Int) + m)) → Mv w1 W4 p c K L B N T (M.take k ++ X ++ M.drop (k + m)) (k + m) uk ub ks fn vn vt vm ∧ Below w1.heap.size w W4 ∧ (∀ t : TypeId, (40 : TypeId) ≠ t → (226 : TypeId) ≠ t → Kt t w W4) := by
  have hXl : X.length = m := by
    have := congrArg List.length hX
    simp [cN] at this
    omega
  have hM := h.hlen
  obtain ⟨cur, hb, hg, hcap, hcm, hcs, htk⟩ : ∃ cur : Array Value, w1.heap.size ≤ g ∧ w.heap[g]? = some (.cells cur 40 (0, 0)) ∧ N.length ≤ cap ∧ cap ≤ maxLen ∧ cur.size = cap * 3 ∧ cur.toList.take (N.length * 3) = cellsN M := by
    rcases h.hnow.2 with ⟨e, _⟩ | ⟨g', cap', cur, e, h1, h2, h3, h4, h5, h6⟩
    · rw [hvm] at e; cases e
    · rw [hvm] at e
      injection e with e1 _ e3
      injection e1 with e1; injection e1 with e1
      subst e1; subst e3
      exact ⟨cur, h1, h2, h3, h4, h5, h6⟩
  have hg2 := (hB.block g (Array.getElem?_eq_some_iff.1 hg).1).trans hg
  have hp2 := (hB.block p (Array.getElem?_eq_some_iff.1 h.hp).1).trans h.hp
  have hgp : p ≠ g := fun e => by rw [e, hg2] at hp2; injection hp2 with h9; injection h9 with _ h9; exact absurd h9 (by decide)
  have hXc : (cellsN X).length = m * 3 := by rw [← hXl]; exact flatK_len nd_len X
  refine ⟨cur, hg2, by rw [hXc, hcs]; omega, hXl, fun W3 hW3 => ?_⟩
  have hp3 : W3.heap[p]? = some (.cells #[uk, ub, ks, fn, .string (drp c), vn, vt, vm, .int .i64 k] 226 (0, 0)) := by rw [hW3]; exact (setRow_other W2 g p _ hgp).trans hp2
  refine ⟨⟨cell_at hp3 rfl, frz_at hp3⟩, fun W4 hW4 => ?_⟩
  have hp4 : W4.heap[p]? = some (.cells #[uk, ub, ks, fn, .string (drp c), vn, vt, vm, .int .i64 ((k : Int) + m)] 226 (0, 0)) := by rw [hW4]; exact heap_setCell_same W3 p 8 _ 226 _ hp3
  have k24 : ∀ t : TypeId, (40 : TypeId) ≠ t → (226 : TypeId) ≠ t → Kt t W2 W4 := fun t n1 n2 => by
    rw [hW4, hW3]
    exact (setRow_kt hg2 n1).ty (by rw [← hW3]; exact ⟨_, hp3⟩) n2 _ _
  have hB4 : Below w1.heap.size w W4 := by
    rw [hW4, hW3]
    exact (below_grown (hB.mono (by have := h.hB.size; omega)) (setRow_grown W2 g _) (Nat.le_trans h.hB.size hB.size) (fun b hb' => by injection hb' with hb'; omega)).setCell h.hge _
  refine ⟨⟨?_, h.hge, h.hB.trans hB4, h.hK, h.hP, h.hb, h.hks, h.hT, h.hN, h.hTt, ?_, ?_, hkm, ?_, ?_, ?_, ?_⟩, hB4, fun t n1 n2 => (Kt.of_below hB).trans (k24 t n1 n2)⟩
  · rw [hp4]; simp
  · have hg3 : W3.heap[g]? = some (.cells (lay cur.toList (k * 3) (cellsN X)).toArray 40 (0, 0)) := by rw [hW3]; exact setRow_heap W2 g cur _ 40 _ hg2
    have hg4 : W4.heap[g]? = some (.cells (lay cur.toList (k * 3) (cellsN X)).toArray 40 (0, 0)) := by rw [hW4]; exact (heap_setCell_other W3 ⟨p, 8, none⟩ g _ (Ne.symm hgp)).trans hg3
    have hcl : cur.toList.length = cap * 3 := by simpa using hcs
    have hll : (lay cur.toList (k * 3) (cellsN X)).length = cap * 3 := by rw [lay_len (by rw [hXc, hcl]; omega), hcl]
    have hml : (cellsN M).length = N.length * 3 := by rw [← hM]; exact flatK_len nd_len M
    have hcM : cellsN (M.take k ++ X ++ M.drop (k + m)) = (cellsN M).take (k * 3) ++ cellsN X ++ (cellsN M).drop ((k + m) * 3) := by
      unfold cellsN
      rw [List.flatMap_append, List.flatMap_append, flatK_take nd_len, flatK_drop nd_len]
    rw [hvm]
    refine ⟨?_, .inr ⟨g, cap, _, rfl, hb, hg4, hcap, hcm, by simpa using hll, ?_⟩⟩
    · rw [hcM]; simp only [List.length_append, List.length_take, List.length_drop, hml, hXc]; omega
    · rw [hcM, ← htk, List.take_take, Nat.min_eq_left (by omega)]
      show ((lay cur.toList (k * 3) (cellsN X)).toArray.toList).take (N.length * 3) = _
      rw [List.toList_toArray]
      unfold lay
      rw [List.take_append, List.take_of_length_le (l := cur.toList.take (k * 3) ++ cellsN X) (by simp [hXc, hcl]; omega)]
      congr 1
      rw [List.drop_take]
      simp only [List.length_append, List.length_take, hXc, hcl]
      rw [show min (k * 3) (cap * 3) = k * 3 by omega, show k * 3 + m * 3 = (k + m) * 3 by omega]
  · simp only [List.length_append, List.length_take, List.length_drop, hXl]; omega
  · intro i n hi hn
    rw [List.getElem?_append_right (by simp [hXl]; omega)] at hn
    simp only [List.length_append, List.length_take, hXl] at hn
    rw [List.getElem?_drop, show k + m + (i - (min k M.length + m)) = i by omega] at hn
    exact h.hold i n (by omega) hn
  · intro i n hi hn
    rw [List.getElem?_append_left (by simp [hXl]; omega)] at hn
    by_cases hik : i < k
    · rw [List.getElem?_append_left (by simp; omega), List.getElem?_take, if_pos hik] at hn
      exact OwnRc.kt ((h.hnew i n hik hn).kt (.of_below hB)) (k24 _ (by decide) (by decide))
    · rw [List.getElem?_append_right (by simp; omega)] at hn
      exact OwnRc.kt (own_base (hO n (List.mem_of_getElem? hn)) h.hB.size) (k24 _ (by decide) (by decide))
  · rw [List.append_assoc, List.take_append, List.take_of_length_le (l := M.take k) (by simp; omega), List.length_take, Nat.min_eq_left (by omega), show k + m - k = m by omega, List.take_append, List.take_of_length_le (l := X) (by omega), hXl, Nat.sub_self, List.take_zero, List.append_nil]
    have hc' : (M.take k).map Nd.c = (N.take k).map (ndT c K) := h.hc
    have hX' : X.map Nd.c = ((N.drop k).take m).map (ndT c K) := hX
    unfold cN
    rw [List.map_append, hc', hX', List.take_add, List.map_append]
  · rw [List.take_add, allX_app c K _ _ h.hx]
    exact hz
end
end Go.Proofs.YtahamkajkkkjdaaGreatDoor
