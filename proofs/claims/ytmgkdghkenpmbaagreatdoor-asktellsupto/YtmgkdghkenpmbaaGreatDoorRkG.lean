/-
  The walk of the document's reader: a step.
-/
import Derived.Test.YtmgkdghkenpmbaaGreatDoorRkF
namespace Go.Proofs.YtmgkdghkenpmbaaGreatDoor
open Go.RowKit
set_option linter.unusedVariables false
set_option linter.unusedSimpArgs false

/-- The tests of a step that is read: where the loop stands. -/
structure KlI (b : Nat) (s : ByteArray) (r0 : Nm) (g5 g0 : Nat) (w : World) (bd : Nm) (back : Bool) (kd : Nm) (again : Bool) (σ : Nm × Bool) (acc : List Tst) (v : Value) (wr : World) : Prop where
  kp : KsP b s σ g5 g0 w bd back kd v wr
  own : wr.ownsRow w.heap.size 33 5 v acc.length (cellsT acc)
  on : again = true → σ.2 = false ∧ testsR r0 = ((testsR σ.1).1, (testsR σ.1).2.map (acc ++ ·)) ∧ acc.length + σ.1.length ≤ s.size
  off : again = false → σ = ((testsR r0).1, (testsR r0).2.isNone) ∧ ∀ ts, (testsR r0).2 = some ts → ts = acc
theorem own_ne5 {w : World} {base : Nat} {v : Value} {n : Nat} {xs : List Value} (h : w.ownsRow base 33 5 v n xs) {g : Nat} {cs : Array Value} {t : TypeId} (hg : w.heap[g]? = some (.cells cs t (0, 0))) (ht : (33 : TypeId) ≠ t) : v.ownBlock ≠ some g := by
  rcases h.2 with ⟨rfl, _⟩ | ⟨g', cap, cur, rfl, hb, hg', _⟩
  · intro e; cases e
  · intro e
    have e2 : g' = g := by simpa [Value.ownBlock] using e
    subst e2
    rw [hg] at hg'; injection hg' with e3; injection e3 with _ e4; exact ht e4.symm
/-- One test more, whatever it is. -/
theorem klI_app {b : Nat} {s : ByteArray} {r0 : Nm} {g5 g0 : Nat} {w : World} {bd : Nm} {back : Bool} {kd : Nm} {again : Bool} {σ σ' : Nm × Bool} {acc : List Tst} {v : Value} {wr W1 W2 : World} {o o' : Obj} (h : KlI b s r0 g5 g0 w bd back kd again σ acc v wr) (hR1 : Rk b s σ' W1) (hG1 : Gw b wr W1) {x : Tst} {a1 : Option Addr} {n1 c1 : Nat}
    (hown : W2.ownsRow w.heap.size 33 5 (.slice a1 n1 c1) (acc.length + 1) (cellsT acc ++ x.cells)) (hgrow : ((W1.alloc o).alloc o').grownBy W2 v.ownBlock) :
    KsP b s σ' g5 g0 w bd back kd v W2 ∧ KsP b s σ' g5 g0 w bd back kd (.slice a1 n1 c1) (W2.setCell ⟨g5, 3, none⟩ (.slice a1 n1 c1)) ∧ (W2.setCell ⟨g5, 3, none⟩ (.slice a1 n1 c1)).ownsRow w.heap.size 33 5 (.slice a1 n1 c1) (acc ++ [x]).length (cellsT (acc ++ [x])) := by
  have k1 := ((h.kp.call hR1 hG1).alloc o).alloc o'
  have hge := own_ge h.own
  have ho1 : ((W1.alloc o).alloc o').ownsRow w.heap.size 33 5 v acc.length (cellsT acc) := ((own_kt h.own (h.kp.rk.kt hG1 (by decide))).alloc o).alloc o'
  obtain ⟨kk, _, _, hrb⟩ := k1.rk
  have k2 := k1.own hgrow (own_ne5 ho1 hrb (by decide)) (own_ne5 ho1 k1.r5 (by decide)) (own_ne5 ho1 k1.r0 (by decide)) hge
  refine ⟨k2, k2.set3 _, ?_⟩
  rw [List.length_append, cellsT_app]
  have := own_kt hown ((Kt.refl 33 W2).set k2.r5 (by decide) 3 (.slice a1 n1 c1))
  simpa [cellsT] using this
/-- How much is yet to be done. -/
def mK (v : Value) (b n : Nat) (w : World) : Nat := match v with
  | .bool true => n - atOf b w + 1
  | _ => 0
theorem own_ktG {b : Nat} {s : ByteArray} {σ : Nm × Bool} {w w' : World} {base n : Nat} {v : Value} {xs : List Value} (h : w.ownsRow base 33 5 v n xs) (hR : Rk b s σ w) (hG : Gw b w w') : w'.ownsRow base 33 5 v n xs := own_kt h (hR.kt hG (by decide))
theorem own_ktD {b : Nat} {s : ByteArray} {σ : Nm × Bool} {w w' : World} {base n k : Nat} {v : Value} {xs : List Value} (h : w.ownsRow base 33 5 v n xs) (hR : Rk b s σ (w.drewN k)) (hG : Gw b (w.drewN k) w') : w'.ownsRow base 33 5 v n xs := own_kt (w := w.drewN k) h (hR.kt hG (by decide))
theorem ndS_93 {r : Nm} (h : seesB r 93 = true) : ndS 93 (r, false) = (r.tail, false) := by rw [ndS_ok, if_pos h]
theorem ndS_93n {r : Nm} (h : seesB r 93 = false) : ndS 93 (r, false) = (r, true) := by rw [ndS_ok, if_neg (by rw [h]; simp)]

set_option maxHeartbeats 4000000 in
set_option maxRecDepth 100000 in
theorem kstep_first {b : Nat} {s : ByteArray} {r : Nm} {w : World} (h : Rk b s (r, false) w) (hs : s.size ≤ 10000000) :
    Calls Tryz.prog 22 #[rp b, .bool true] w fun e w' => KsAns w w' e (pStep true r).2 ∧ Rk b s ((pStep true r).1, (pStep true r).2.isNone) w' ∧ Gw b w w' := by
  have hbl := h.lt
  have hs' : s.size ≤ maxLen := by unfold maxLen; omega
  have hs2 : s.size ≤ 140737488355328 := by omega
  have HP : Hid (KsP b s (r, false) (w.heap.size + 1) w.heap.size w [] false [] (.slice none 0 0) ((w.alloc (.cells #[.string ⟨#[]⟩, .bool false, .string ⟨#[]⟩, .slice none 0 0] 29)).alloc (.cells #[.string ⟨#[]⟩, .bool false, .string ⟨#[]⟩, .slice none 0 0] 29))) := by
    have n2 := new_block (w.alloc (.cells #[.string ⟨#[]⟩, .bool false, .string ⟨#[]⟩, .slice none 0 0] 29)) #[.string ⟨#[]⟩, .bool false, .string ⟨#[]⟩, .slice none 0 0] 29
    rw [World.size_alloc] at n2
    exact ⟨(h.alloc _).alloc _, n2, old_block (new_block w _ 29) _, ((Gw.refl b w).alloc _).alloc _, by omega, by omega, by omega, by omega, Nat.le_refl _⟩
  have h50 : ¬ w.heap.size + 1 = w.heap.size := by omega
  have h05 : ¬ w.heap.size = w.heap.size + 1 := by omega
  have hb5 : ¬ b = w.heap.size + 1 := by omega
  have hb5' : ¬ w.heap.size + 1 = b := by omega
  have hb0 : ¬ b = w.heap.size := by omega
  have hb0' : ¬ w.heap.size = b := by omega
  have hp : pStep true r = pKind [] false r := by unfold pStep; rw [if_pos rfl]
  rw [hp]
  have cN := kname_any HP.out.rk hs'
  clear hp
  by_cases hn : nameT r = []
  · rw [pKind_no hn]
    rw [(nmS_no hn).1, (nmS_no hn).2] at cN
    clear h hn
    go_enter Tryz.func22, Tryz.ntmps22
    go_wp2_with (go_at_call 39; refine cN.mono ?_; rintro e V1 ⟨rfl, hR, hG⟩; refine Hid.out ?_)
    refine Lib.hid ?_
    have H1 := Lib.hid (HP.out.call hR hG)
    obtain ⟨a0, a1, a2, a3, f0, f1, f2, f3⟩ := own4 H1.out.r5
    obtain ⟨e0, e1, e2, e3, p0, p1, p2, p3⟩ := own4 H1.out.r0
    have H2 := Lib.hid (H1.out.set2 [])
    have cI := is_any H2.out.rk 91 hs'
    clear hR hG
    rw [show ((!(r, true).2) && seesB (r, true).1 91) = false from rfl] at cI
    go_wp2_with (go_at_call 38; refine cI.mono ?_; rintro e W3 ⟨rfl, nq, rfl⟩)
    obtain ⟨Q1, Q2⟩ := (H2.out.drewN nq).done (.string (bs [])) (.bool false) (.string (bs [])) (.slice none 0 0)
    refine bodyPost_ret (v := .agg #[.string (bs []), .bool false, .string (bs []), .slice none 0 0]) (res4k rfl (four_blk (H2.out.drewN nq).r0 _ _ _ _)) rfl ⟨⟨⟨⟨[], false, [], []⟩, .slice none 0 0⟩, ⟨_, _, _, rfl⟩, rfl, fun p hp => by cases hp⟩, Q1, Q2⟩
  · rw [pKind_yes hn]
    rw [(nmS_ok hn).1, (nmS_ok hn).2] at cN
    generalize nameT r = kd at cN ⊢
    generalize nameD r = q at cN ⊢
    clear h hn
    by_cases h91 : seesB q 91 = true
    · have hpt : pTests q = testsR q.tail := by unfold pTests; rw [if_pos h91]
      rw [hpt]
      clear hpt
      go_enter Tryz.func22, Tryz.ntmps22
      go_wp2_with (go_at_call 39; refine cN.mono ?_; rintro e V1 ⟨rfl, hR, hG⟩; refine Hid.out ?_)
      refine Lib.hid ?_
      have H1 := Lib.hid (HP.out.call hR hG)
      obtain ⟨a0, a1, a2, a3, f0, f1, f2, f3⟩ := own4 H1.out.r5
      obtain ⟨e0, e1, e2, e3, p0, p1, p2, p3⟩ := own4 H1.out.r0
      have H2 := Lib.hid (H1.out.set2 kd)
      have cI := is_any H2.out.rk 91 hs'
      clear hR hG
      rw [show ((!(q, false).2) && seesB (q, false).1 91) = true from h91] at cI
      obtain ⟨k, hk, hr, hbb⟩ := H2.out.rk
      simp only at hr hbb
      obtain ⟨hk1, hr1⟩ := rd_next hr h91
      have HBB := Lib.hid hbb
      have d1 : (V1.setCell ⟨w.heap.size + 1, 2, none⟩ (.string (bs kd))).cell? ⟨b, 1, none⟩ = some (.int .i64 (k : Int)) := cell_at hbb rfl
      have df : (V1.setCell ⟨w.heap.size + 1, 2, none⟩ (.string (bs kd))).frozen? ⟨b, 1, none⟩ = false := frz_at hbb
      have hql : q.tail.length ≤ s.size := by have := List.length_tail (l := q); have := H2.out.rk.atOf.2; simp only at this; omega
      have HL0 : Hid (∀ nq : Nat, KlI b s q.tail (w.heap.size + 1) w.heap.size w [] false kd true (q.tail, false) [] (.slice none 0 0) (((V1.setCell ⟨w.heap.size + 1, 2, none⟩ (.string (bs kd))).drewN nq).setCell ⟨b, 1, none⟩ (.int .i64 ((k : Int) + 1)))) := fun nq =>
        ⟨(H2.out.drewN nq).call ⟨k + 1, by omega, hr1, rk_put (w := (V1.setCell ⟨w.heap.size + 1, 2, none⟩ (.string (bs kd))).drewN nq) HBB.out _⟩ ((Gw.refl _ _).set _ _), World.ownsRow_nil _ _ _ _, fun _ => ⟨rfl, by simp, by simpa using hql⟩, fun h => by cases h⟩
      clear hr hbb hr1
      go_wp2_with (go_at_call 38; refine cI.mono ?_; rintro e W3 ⟨rfl, nq, rfl⟩)
      have HL0 := Lib.hid (HL0.out nq)
      clear a0 a1 a2 a3 f0 f1 f2 f3 e0 e1 e2 e3 p0 p1 p2 p3 d1 df h91 cI
      obtain ⟨i0, hi0, hz0, hz1, hz2⟩ := info_parts infoT
      go_loopw [9] (fun v9 wr => ∃ (again : Bool) (σ : Nm × Bool) (acc : List Tst) (v : Value), v9 = .bool again ∧ KlI b s q.tail (w.heap.size + 1) w.heap.size w [] false kd again σ acc v wr) (fun v9 wr => mK v9 b s.size wr)
      case atStart => exact ⟨true, _, [], _, rfl, HL0.out⟩
      case round =>
        obtain ⟨again, σ, acc, v, rfl, hI⟩ := hrel
        clear HL0
        obtain ⟨av, cv, ev⟩ := own_slice hI.own
        subst ev
        have HI := Lib.hid hI
        cases again with
        | false =>
          have HF := Lib.hid (hI.off rfl)
          obtain ⟨a0, a1, a2, a3, f0, f1, f2, f3⟩ := own4 hI.kp.r5
          obtain ⟨e0, e1, e2, e3, p0, p1, p2, p3⟩ := own4 hI.kp.r0
          clear hI
          go_wp2
          obtain ⟨Q1, Q2⟩ := HI.out.kp.done (.string (bs [])) (.bool false) (.string (bs kd)) (.slice av acc.length cv)
          refine bodyPost_ret (v := .agg #[.string (bs []), .bool false, .string (bs kd), .slice av acc.length cv]) (res4k rfl (four_blk HI.out.kp.r0 _ _ _ _)) rfl ⟨⟨⟨⟨[], false, kd, acc⟩, .slice av acc.length cv⟩, ⟨_, _, _, rfl⟩, rfl, fun p hp => ?_⟩, ?_, Q2⟩
          · obtain ⟨ts, hts, rfl⟩ := Option.map_eq_some_iff.1 hp
            have := HF.out.2 ts hts
            subst this
            exact ⟨rfl, own_kt HI.out.own (four_kt HI.out.kp.r0 _ _ _ _)⟩
          · have e := HF.out.1
            rw [e] at Q1
            have e2 : ((testsR q.tail).2.map fun ts => (⟨[], false, kd, ts⟩ : St)).isNone = (testsR q.tail).2.isNone := by cases (testsR q.tail).2 <;> rfl
            rw [e2]
            exact Q1
        | true =>
          obtain ⟨hb0, heq, hln⟩ := hI.on rfl
          obtain ⟨q1, bad⟩ := σ
          simp only at hb0
          subst hb0
          have cX := ktest_any hI.kp.rk hs2
          have hA := hI.kp.rk.atOf
          have HA := Lib.hid hA
          simp only at heq hln
          have HEQ := Lib.hid heq
          have HM : Hid (acc.length + 1 ≤ maxLen ∧ (acc.length + 1) * 56 ≤ 140737488355328) := by unfold maxLen; exact ⟨by omega, by omega⟩
          have cb2 : wr.cell? ⟨b, 2, none⟩ = some (.bool false) := by obtain ⟨kk, _, _, hb⟩ := hI.kp.rk; exact cell_at hb rfl
          clear hI hA heq
          rcases hx0 : (pTest q1).2 with _ | y
          · rw [hx0] at cX
            have HT : Hid (testsR q.tail = ((pTest q1).1, none)) := by show _ = _; rw [HEQ.out, testsR_no hx0]; rfl
            simp only [Option.isNone_none] at cX
            go_wp2_with (first | (go_at_call 40; refine cX.mono ?_; rintro e W1 ⟨⟨x, rfl, hx⟩, hR1, hG1⟩; have HR1 := Lib.hid hR1; have HG1 := Lib.hid hG1; have k1 := HI.out.kp.call hR1 hG1; have aa := cell_old (cell_at (i := 3) k1.r5 rfl); have HO1 := Lib.hid (((own_ktG HI.out.own HI.out.kp.rk hG1).alloc (boxT x)).alloc (boxT x)); have HZ := Lib.hid (Nat.le_trans (HI.out.kp.gw.trans hG1).size (Nat.le_of_lt (by simp; omega) : W1.heap.size ≤ ((W1.alloc (boxT x)).alloc (boxT x)).heap.size)); have hnw : Hid (∀ j u, x.cells[j]? = some u → ((W1.alloc (boxT x)).alloc (boxT x)).cell? ((⟨W1.heap.size + 1, 0, none⟩ : Addr).add j) = some u) := (by have := new_at (W1.alloc (boxT x)) x.cells 33; rw [World.size_alloc] at this; exact this); clear hR1 hG1 k1) | (at_builtin; refine wpList_append_own _ rfl (.tmp 64) (.tmp 66) 27 rfl w.heap.size 33 i0 _ 5 56 Tryz.underlying27 hi0 hz0 hz1 hz2 rfl (by decide) (.slice av acc.length cv) acc.length (cellsT acc) rfl HO1.out ⟨W1.heap.size + 1, 0, none⟩ 1 1 x.cells rfl rfl hnw.out (by simp [Tst.cells, Value.oneCell']) HM.out.1 HM.out.2 HZ.out ?_; intro v1 W2 hown1 hgrow1 _; obtain ⟨a1, d1, ev⟩ := own_slice hown1; subst ev; obtain ⟨k2, k3, k4⟩ := klI_app HI.out HR1.out HG1.out hown1 hgrow1; have t3 : W2.cell? ⟨w.heap.size + 1, 3, none⟩ = some (.slice av acc.length cv) := cell_at k2.r5 rfl; have tf3 : W2.frozen? ⟨w.heap.size + 1, 3, none⟩ = false := frz_at k2.r5; have HK := Lib.hid (And.intro k3 k4); have cI := is_any k3.rk 44 hs'; clear k2 k3 k4 hown1 hgrow1; refine Hid.out ?_))
            refine Lib.hid ?_

            rw [show ((!((pTest q1).1, true).2) && seesB ((pTest q1).1, true).1 44) = false from rfl] at cI
            have cN := fun n => need_any (HK.out.1.drewN n).rk 93 hs'
            rw [ndS_bad] at cN
            go_wp2_with (first | (go_at_call 38; refine cI.mono ?_; rintro e W3 ⟨rfl, nq, rfl⟩) | (go_at_call 37; refine (cN _).mono ?_; rintro e W4 ⟨rfl, hR4, hG4⟩))
            go_roundw
            case rel =>
              refine ⟨false, _, _, _, rfl, (HK.out.1.drewN nq).call hR4 hG4, own_ktD HK.out.2 (HK.out.1.drewN nq).rk hG4, fun h => (by cases h), fun _ => ⟨?_, fun ts h => ?_⟩⟩
              · rw [HT.out]; rfl
              · rw [HT.out] at h; cases h
            case measure => simp [mK]
          · rw [hx0] at cX
            have hlt := tail_lt hx0
            have hle := pTest_len (r := q1) (by rw [hx0]; rfl)
            have HLT := Lib.hid hlt
            have HLE := Lib.hid hle
            have HLN := Lib.hid hln
            simp only [Option.isNone_some] at cX
            clear hlt hle hln
            by_cases h44 : seesB (pTest q1).1 44 = true
            · have HT : Hid (testsR q.tail = ((testsR (pTest q1).1.tail).1, (testsR (pTest q1).1.tail).2.map ((acc ++ [y]) ++ ·))) := by
                show _ = _
                rw [HEQ.out, testsR_on hx0 h44]
                simp only [Option.map_map]
                congr 2; funext l; simp
              go_wp2_with (first | (go_at_call 40; refine cX.mono ?_; rintro e W1 ⟨⟨x, rfl, hx⟩, hR1, hG1⟩; have hxy := hx _ rfl; clear hx; subst hxy; have HR1 := Lib.hid hR1; have HG1 := Lib.hid hG1; have k1 := HI.out.kp.call hR1 hG1; have aa := cell_old (cell_at (i := 3) k1.r5 rfl); have HO1 := Lib.hid (((own_ktG HI.out.own HI.out.kp.rk hG1).alloc (boxT x)).alloc (boxT x)); have HZ := Lib.hid (Nat.le_trans (HI.out.kp.gw.trans hG1).size (Nat.le_of_lt (by simp; omega) : W1.heap.size ≤ ((W1.alloc (boxT x)).alloc (boxT x)).heap.size)); have hnw : Hid (∀ j u, x.cells[j]? = some u → ((W1.alloc (boxT x)).alloc (boxT x)).cell? ((⟨W1.heap.size + 1, 0, none⟩ : Addr).add j) = some u) := (by have := new_at (W1.alloc (boxT x)) x.cells 33; rw [World.size_alloc] at this; exact this); clear hR1 hG1 k1) | (at_builtin; refine wpList_append_own _ rfl (.tmp 64) (.tmp 66) 27 rfl w.heap.size 33 i0 _ 5 56 Tryz.underlying27 hi0 hz0 hz1 hz2 rfl (by decide) (.slice av acc.length cv) acc.length (cellsT acc) rfl HO1.out ⟨W1.heap.size + 1, 0, none⟩ 1 1 x.cells rfl rfl hnw.out (by simp [Tst.cells, Value.oneCell']) HM.out.1 HM.out.2 HZ.out ?_; intro v1 W2 hown1 hgrow1 _; obtain ⟨a1, d1, ev⟩ := own_slice hown1; subst ev; obtain ⟨k2, k3, k4⟩ := klI_app HI.out HR1.out HG1.out hown1 hgrow1; have t3 : W2.cell? ⟨w.heap.size + 1, 3, none⟩ = some (.slice av acc.length cv) := cell_at k2.r5 rfl; have tf3 : W2.frozen? ⟨w.heap.size + 1, 3, none⟩ = false := frz_at k2.r5; have HK := Lib.hid (And.intro k3 k4); have cI := is_any k3.rk 44 hs'; clear k2 k3 k4 hown1 hgrow1; refine Hid.out ?_))
              refine Lib.hid ?_

              rw [show ((!((pTest q1).1, false).2) && seesB ((pTest q1).1, false).1 44) = true from h44] at cI
              obtain ⟨k, hk, hr, hbb⟩ := HK.out.1.rk
              simp only at hr hbb
              obtain ⟨hk1, hr1⟩ := rd_next hr h44
              have HBB := Lib.hid hbb
              have HRR := Lib.hid hr1
              have b1 : (W2.setCell ⟨w.heap.size + 1, 3, none⟩ (.slice a1 (acc.length + 1) d1)).cell? ⟨b, 1, none⟩ = some (.int .i64 (k : Int)) := cell_at hbb rfl
              have bf : (W2.setCell ⟨w.heap.size + 1, 3, none⟩ (.slice a1 (acc.length + 1) d1)).frozen? ⟨b, 1, none⟩ = false := frz_at hbb
              clear hr hbb hr1 h44
              go_wp2_with (first | (go_at_call 38; refine cI.mono ?_; rintro e W3 ⟨rfl, nq, rfl⟩))
              have hR5 : Rk b s ((pTest q1).1.tail, false) (((W2.setCell ⟨w.heap.size + 1, 3, none⟩ (.slice a1 (acc.length + 1) d1)).drewN nq).setCell ⟨b, 1, none⟩ (.int .i64 ((k : Int) + 1))) := ⟨k + 1, by omega, HRR.out, rk_put (w := (W2.setCell ⟨w.heap.size + 1, 3, none⟩ (.slice a1 (acc.length + 1) d1)).drewN nq) HBB.out _⟩
              have hG5 : Gw b ((W2.setCell ⟨w.heap.size + 1, 3, none⟩ (.slice a1 (acc.length + 1) d1)).drewN nq) (((W2.setCell ⟨w.heap.size + 1, 3, none⟩ (.slice a1 (acc.length + 1) d1)).drewN nq).setCell ⟨b, 1, none⟩ (.int .i64 ((k : Int) + 1))) := (Gw.refl _ _).set _ _
              go_roundw
              case rel =>
                refine ⟨true, _, _, _, rfl, (HK.out.1.drewN nq).call hR5 hG5, own_ktD HK.out.2 (HK.out.1.drewN nq).rk hG5, fun _ => ⟨rfl, HT.out, ?_⟩, fun h => (by cases h)⟩
                have := HLN.out; have := HLE.out; have := HLT.out
                have := List.length_tail (l := (pTest q1).1)
                simp only [List.length_append, List.length_cons, List.length_nil]
                omega
              case measure =>
                have e1 := HA.out
                have e2 := hR5.atOf
                have := HLE.out; have := HLT.out
                have := List.length_tail (l := (pTest q1).1)
                simp only [mK] at e1 e2 ⊢
                omega
            · have h44 : seesB (pTest q1).1 44 = false := by simpa using h44
              by_cases h93 : seesB (pTest q1).1 93 = true
              · have HT : Hid (testsR q.tail = ((pTest q1).1.tail, some (acc ++ [y]))) := by
                  show _ = _
                  rw [HEQ.out, testsR_shut hx0 h44 h93]; rfl
                go_wp2_with (first | (go_at_call 40; refine cX.mono ?_; rintro e W1 ⟨⟨x, rfl, hx⟩, hR1, hG1⟩; have hxy := hx _ rfl; clear hx; subst hxy; have HR1 := Lib.hid hR1; have HG1 := Lib.hid hG1; have k1 := HI.out.kp.call hR1 hG1; have aa := cell_old (cell_at (i := 3) k1.r5 rfl); have HO1 := Lib.hid (((own_ktG HI.out.own HI.out.kp.rk hG1).alloc (boxT x)).alloc (boxT x)); have HZ := Lib.hid (Nat.le_trans (HI.out.kp.gw.trans hG1).size (Nat.le_of_lt (by simp; omega) : W1.heap.size ≤ ((W1.alloc (boxT x)).alloc (boxT x)).heap.size)); have hnw : Hid (∀ j u, x.cells[j]? = some u → ((W1.alloc (boxT x)).alloc (boxT x)).cell? ((⟨W1.heap.size + 1, 0, none⟩ : Addr).add j) = some u) := (by have := new_at (W1.alloc (boxT x)) x.cells 33; rw [World.size_alloc] at this; exact this); clear hR1 hG1 k1) | (at_builtin; refine wpList_append_own _ rfl (.tmp 64) (.tmp 66) 27 rfl w.heap.size 33 i0 _ 5 56 Tryz.underlying27 hi0 hz0 hz1 hz2 rfl (by decide) (.slice av acc.length cv) acc.length (cellsT acc) rfl HO1.out ⟨W1.heap.size + 1, 0, none⟩ 1 1 x.cells rfl rfl hnw.out (by simp [Tst.cells, Value.oneCell']) HM.out.1 HM.out.2 HZ.out ?_; intro v1 W2 hown1 hgrow1 _; obtain ⟨a1, d1, ev⟩ := own_slice hown1; subst ev; obtain ⟨k2, k3, k4⟩ := klI_app HI.out HR1.out HG1.out hown1 hgrow1; have t3 : W2.cell? ⟨w.heap.size + 1, 3, none⟩ = some (.slice av acc.length cv) := cell_at k2.r5 rfl; have tf3 : W2.frozen? ⟨w.heap.size + 1, 3, none⟩ = false := frz_at k2.r5; have HK := Lib.hid (And.intro k3 k4); have cI := is_any k3.rk 44 hs'; clear k2 k3 k4 hown1 hgrow1; refine Hid.out ?_))
                refine Lib.hid ?_

                rw [show ((!((pTest q1).1, false).2) && seesB ((pTest q1).1, false).1 44) = false from h44] at cI
                have cN := fun n => need_any (HK.out.1.drewN n).rk 93 hs'
                rw [ndS_93 h93] at cN
                clear h44 h93
                go_wp2_with (first | (go_at_call 38; refine cI.mono ?_; rintro e W3 ⟨rfl, nq, rfl⟩) | (go_at_call 37; refine (cN _).mono ?_; rintro e W4 ⟨rfl, hR4, hG4⟩))
                go_roundw
                case rel =>
                  refine ⟨false, _, _, _, rfl, (HK.out.1.drewN nq).call hR4 hG4, own_ktD HK.out.2 (HK.out.1.drewN nq).rk hG4, fun h => (by cases h), fun _ => ⟨?_, fun ts h => ?_⟩⟩
                  · rw [HT.out]; rfl
                  · rw [HT.out] at h; injection h with h; exact h.symm
                case measure => simp [mK]
              · have h93 : seesB (pTest q1).1 93 = false := by simpa using h93
                have HT : Hid (testsR q.tail = ((pTest q1).1, none)) := by
                  show _ = _
                  rw [HEQ.out, testsR_bad hx0 h44 h93]; rfl
                go_wp2_with (first | (go_at_call 40; refine cX.mono ?_; rintro e W1 ⟨⟨x, rfl, hx⟩, hR1, hG1⟩; have hxy := hx _ rfl; clear hx; subst hxy; have HR1 := Lib.hid hR1; have HG1 := Lib.hid hG1; have k1 := HI.out.kp.call hR1 hG1; have aa := cell_old (cell_at (i := 3) k1.r5 rfl); have HO1 := Lib.hid (((own_ktG HI.out.own HI.out.kp.rk hG1).alloc (boxT x)).alloc (boxT x)); have HZ := Lib.hid (Nat.le_trans (HI.out.kp.gw.trans hG1).size (Nat.le_of_lt (by simp; omega) : W1.heap.size ≤ ((W1.alloc (boxT x)).alloc (boxT x)).heap.size)); have hnw : Hid (∀ j u, x.cells[j]? = some u → ((W1.alloc (boxT x)).alloc (boxT x)).cell? ((⟨W1.heap.size + 1, 0, none⟩ : Addr).add j) = some u) := (by have := new_at (W1.alloc (boxT x)) x.cells 33; rw [World.size_alloc] at this; exact this); clear hR1 hG1 k1) | (at_builtin; refine wpList_append_own _ rfl (.tmp 64) (.tmp 66) 27 rfl w.heap.size 33 i0 _ 5 56 Tryz.underlying27 hi0 hz0 hz1 hz2 rfl (by decide) (.slice av acc.length cv) acc.length (cellsT acc) rfl HO1.out ⟨W1.heap.size + 1, 0, none⟩ 1 1 x.cells rfl rfl hnw.out (by simp [Tst.cells, Value.oneCell']) HM.out.1 HM.out.2 HZ.out ?_; intro v1 W2 hown1 hgrow1 _; obtain ⟨a1, d1, ev⟩ := own_slice hown1; subst ev; obtain ⟨k2, k3, k4⟩ := klI_app HI.out HR1.out HG1.out hown1 hgrow1; have t3 : W2.cell? ⟨w.heap.size + 1, 3, none⟩ = some (.slice av acc.length cv) := cell_at k2.r5 rfl; have tf3 : W2.frozen? ⟨w.heap.size + 1, 3, none⟩ = false := frz_at k2.r5; have HK := Lib.hid (And.intro k3 k4); have cI := is_any k3.rk 44 hs'; clear k2 k3 k4 hown1 hgrow1; refine Hid.out ?_))
                refine Lib.hid ?_

                rw [show ((!((pTest q1).1, false).2) && seesB ((pTest q1).1, false).1 44) = false from h44] at cI
                have cN := fun n => need_any (HK.out.1.drewN n).rk 93 hs'
                rw [ndS_93n h93] at cN
                clear h44 h93
                go_wp2_with (first | (go_at_call 38; refine cI.mono ?_; rintro e W3 ⟨rfl, nq, rfl⟩) | (go_at_call 37; refine (cN _).mono ?_; rintro e W4 ⟨rfl, hR4, hG4⟩))
                go_roundw
                case rel =>
                  refine ⟨false, _, _, _, rfl, (HK.out.1.drewN nq).call hR4 hG4, own_ktD HK.out.2 (HK.out.1.drewN nq).rk hG4, fun h => (by cases h), fun _ => ⟨?_, fun ts h => ?_⟩⟩
                  · rw [HT.out]; rfl
                  · rw [HT.out] at h; cases h
                case measure => simp [mK]
    · have h91 : seesB q 91 = false := by simpa using h91
      have hpt : pTests q = (q, some []) := by unfold pTests; rw [if_neg (by rw [h91]; simp)]
      rw [hpt]
      simp only [Option.map_some, Option.isNone_some]
      clear hpt
      go_enter Tryz.func22, Tryz.ntmps22
      go_wp2_with (go_at_call 39; refine cN.mono ?_; rintro e V1 ⟨rfl, hR, hG⟩; refine Hid.out ?_)
      refine Lib.hid ?_
      have H1 := Lib.hid (HP.out.call hR hG)
      obtain ⟨a0, a1, a2, a3, f0, f1, f2, f3⟩ := own4 H1.out.r5
      obtain ⟨e0, e1, e2, e3, p0, p1, p2, p3⟩ := own4 H1.out.r0
      have H2 := Lib.hid (H1.out.set2 kd)
      have cI := is_any H2.out.rk 91 hs'
      clear hR hG
      rw [show ((!(q, false).2) && seesB (q, false).1 91) = false from h91] at cI
      go_wp2_with (go_at_call 38; refine cI.mono ?_; rintro e W3 ⟨rfl, nq, rfl⟩)
      obtain ⟨Q1, Q2⟩ := (H2.out.drewN nq).done (.string (bs [])) (.bool false) (.string (bs kd)) (.slice none 0 0)
      refine bodyPost_ret (v := .agg #[.string (bs []), .bool false, .string (bs kd), .slice none 0 0]) (res4k rfl (four_blk (H2.out.drewN nq).r0 _ _ _ _)) rfl ⟨⟨⟨⟨[], false, kd, []⟩, .slice none 0 0⟩, ⟨_, _, _, rfl⟩, rfl, fun p hp => ?_⟩, Q1, Q2⟩
      injection hp with hp
      subst hp
      exact ⟨rfl, World.ownsRow_nil _ _ _ _⟩
end Go.Proofs.YtmgkdghkenpmbaaGreatDoor
