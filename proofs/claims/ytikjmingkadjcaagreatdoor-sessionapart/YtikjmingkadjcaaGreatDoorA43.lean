/-
  The walk of with.
-/
import Derived.Test.YtikjmingkadjcaaGreatDoorA42
import Derived.Laws.ResultCell
import Derived.Deep.RegionHeld
import Derived.Test.YtikjmingkadjcaaGreatDoorA20
namespace Go.Proofs.YtikjmingkadjcaaGreatDoor
open Go.RowKit Go.Maps
set_option linter.unusedVariables false
set_option linter.unusedSimpArgs false

def wE (s : Bs) (O : List Opx) : Int := if opS.err O s.N s.T = 0 then (if confB s.L s.B (opS.res O s.N s.T).1 (opS.res O s.N s.T).2 = true then 0 else 9) else opS.err O s.N s.T
def WiP (s : Bs) (O : List Opx) (w : World) (e : Ending) (w' : World) : Prop :=
  ∃ a n c a' n' c', e = .returned (.tuple #[.agg #[.slice a n c, .slice a' n' c'], errV (wE s O)]) ∧
    (wE s O = 0 → ∃ M, cN M = (opS.res O s.N s.T).1 ∧ OwnNs w' w.heap.size (.slice a n c) M ∧ OwnTs w' w.heap.size (.slice a' n' c') (opS.res O s.N s.T).2) ∧ Below w.heap.size w w'

set_option maxHeartbeats 4000000 in
set_option maxRecDepth 100000 in
theorem with_no {w : World} {base p : Nat} {l : Bl} {s : Bs} (h : BeL w base p l s) (hok : BsOk s) {vo : Value} {O : List Opx} (hO : IsO w vo O) (lO : O.length ≤ 40) (zO : ∀ o ∈ O, OpSz o) (he : opS.err O s.N s.T ≠ 0) :
    Calls Tryz.prog 25 #[.pointer (some ⟨p, 0, none⟩), vo] w (WiP s O w) := by
  have hz : wE s O = opS.err O s.N s.T := by unfold wE; rw [if_neg he]
  obtain ⟨hs0, hg0, _⟩ := cfE_zero hok.c0
  have hgM : gErr l.M s.T = 0 := by rw [← gErr_c, h.gr.1]; exact hg0
  obtain ⟨zM, zT⟩ := gErr_sz hgM
  obtain ⟨an, cn, hvn⟩ := own_slice h.gr.2.1.1
  obtain ⟨at', ct, hvt⟩ := own_slice h.gr.2.2
  obtain ⟨W0, hW0⟩ : ∃ W0, W0 = w.alloc (.cells #[.slice none 0 0, .slice none 0 0] 29) := ⟨_, rfl⟩
  have hB0 : Below w.heap.size w W0 := by rw [hW0]; exact b_alloc (Below.refl _ _) _
  have n0 : W0.heap[w.heap.size]? = some (.cells #[.slice none 0 0, .slice none 0 0] 29 (0, 0)) := by rw [hW0]; exact heap_alloc_new w _
  have hcs := h.cs
  rw [hvn, hvt] at hcs
  have hcs0 := (hB0.block p (Array.getElem?_eq_some_iff.1 hcs).1).trans hcs
  have hplt := (Array.getElem?_eq_some_iff.1 hcs).1
  have y0 : W0.cell? ⟨p, 2, none⟩ = some (.slice an l.M.length cn) := cell_at hcs0 rfl
  have y1 : W0.cell? ⟨p, 3, none⟩ = some (.slice at' s.T.length ct) := cell_at hcs0 rfl
  have hN := h.gr.2.1
  have hT := h.gr.2.2
  rw [hvn] at hN
  rw [hvt] at hT
  have c := all_in opS ((hN.kt (.of_below hB0) (.of_below hB0)).isN) ((hT.kt (.of_below hB0)).isT) zM zT hgM (hO.on hB0) lO zO (fun o _ => apply_all o) (fun o _ => keeps_all o)
  have c' : Calls Tryz.prog 27 #[.agg #[.slice an l.M.length cn, .slice at' s.T.length ct], vo] W0 fun e w' => ∃ k z, e = .returned (.tuple #[.agg #[.slice none 0 0, .slice none 0 0], .int .i64 k, .iface 79 (.int .i64 z)]) ∧ errV (wE s O) = .iface 79 (.int .i64 z) ∧ Below W0.heap.size W0 w' := c.mono fun e w' hP => by
    obtain ⟨hB, ⟨h1, _⟩ | ⟨h1, rfl⟩⟩ := hP
    · rw [h.gr.1] at h1; exact absurd h1 he
    · rw [h.gr.1]
      exact ⟨_, _, by rw [errV_ne he], by rw [hz, errV_ne he], hB⟩
  have hne : ¬ p = w.heap.size := by omega
  have hs0' : W0.heap.size = w.heap.size + 1 := by rw [hW0]; simp
  have HB := Lib.hid (And.intro hB0 n0)
  have HS0 := Lib.hid hs0'
  obtain ⟨ao, co, hvo, _⟩ := id hO
  subst hvo
  have HWE : Hid (wE s O ≠ 0) := by show _; rw [hz]; exact he
  generalize hq : errV (wE s O) = ve at c'
  have HVE := Lib.hid hq
  clear hN hT c hcs hcs0 zM zT hgM hg0 hs0 h hok hO zO hB0 n0 hvn hvt hz hq he
  go_enter Tryz.func25, Tryz.ntmps25
  go_upto_region 1 with fail
  rw [← hW0]
  clear hW0
  go_wp2_with (first | (go_at_call 27; refine c'.mono ?_; rintro e W1 ⟨k, z, rfl, hv, hB1⟩; refine Hid.out ?_; have hv' := Lib.hid hv; clear hv; have m0 := (hB1.block _ (by have := HS0.out; omega)).trans HB.out.2; have z0 : W1.cell? ⟨w.heap.size, 0, none⟩ = some (.slice none 0 0) := cell_at m0 rfl; have z1 : W1.cell? ⟨w.heap.size, 1, none⟩ = some (.slice none 0 0) := cell_at m0 rfl; have f0 : W1.frozen? ⟨w.heap.size, 0, none⟩ = false := frz_at m0; have f1 : W1.frozen? ⟨w.heap.size, 1, none⟩ = false := frz_at m0; have hn1 : ¬ w.heap.size = W1.heap.size := (by have h1 := hB1.size; have h2 := HS0.out; omega); have HX := Lib.hid (And.intro m0 hB1); clear m0 hB1))
  refine Lib.hid ?_
  go_upto_region 3 with fail
  obtain ⟨m0, hB1⟩ := HX.out
  obtain ⟨W3, hW3⟩ : ∃ W3, W3 = W1.alloc (.cells #[.slice none 0 0, .slice none 0 0] 29) := ⟨_, rfl⟩
  rw [← hW3]
  have m3 : W3.heap[w.heap.size]? = some (.cells #[.slice none 0 0, .slice none 0 0] 29 (0, 0)) := by rw [hW3]; exact (Below.heap_alloc _ _ _ (Array.getElem?_eq_some_iff.1 m0).1).trans m0
  have k0 : W3.cell? ⟨w.heap.size, 0, none⟩ = some (.slice none 0 0) := cell_at m3 rfl
  have k1 : W3.cell? ⟨w.heap.size, 1, none⟩ = some (.slice none 0 0) := cell_at m3 rfl
  have g0 : W3.frozen? ⟨w.heap.size, 0, none⟩ = false := frz_at m3
  have g1 : W3.frozen? ⟨w.heap.size, 1, none⟩ = false := frz_at m3
  have HE : Hid (Below w.heap.size w W3) := by
    show Below w.heap.size w W3
    rw [hW3]; exact b_alloc (on1K HB.out.1 hB1 (Nat.le_refl _)) _
  clear hW3 m0 hB1 m3 z0 z1 f0 f1 y0 y1
  go_wp2
  refine bodyPost_ret (v := .tuple #[.agg #[.slice none 0 0, .slice none 0 0], .iface 79 (.int .i64 z)]) ?_ rfl ⟨_, _, _, _, _, _, by rw [HVE.out, hv'.out], fun h => absurd h HWE.out, (HE.out.setCell (Nat.le_refl _) _).setCell (Nat.le_refl _) _⟩
  simp [results, Tryz.results25, go_sem, k0, k1]
theorem kq_sz {K L : List Kd} (h : K.map kq3 = L.map kq3) (hz : SzK L) : SzK K := fun k hk => by
  have : kq3 k ∈ L.map kq3 := by rw [← h]; exact List.mem_map.2 ⟨k, hk, rfl⟩
  obtain ⟨k', hk', e⟩ := List.mem_map.1 this
  have e1 : k'.nm = k.nm := congrArg (·.1) e
  have e2 : k'.fs = k.fs := congrArg (·.2.2) e
  rw [← e1, ← e2]
  exact hz k' hk'
theorem ownKs_sc {w : World} {base : Nat} {vk vb : Value} {K L : List Kd} {B : List Bd} (h : K.map kq3 = L.map kq3 ∧ OwnKs w base vk K ∧ OwnBs w base vb B) (hz : SzK L) (hzb : SzB B) : IsSc w (.agg #[vk, vb]) K B :=
  ⟨vk, vb, rfl, own_isK h.2.1.1, fun k hk => ⟨own_isS (h.2.1.2 k hk).1, own_isF (h.2.1.2 k hk).2⟩, kq_sz h.1 hz, own_isB h.2.2, hzb⟩
set_option maxHeartbeats 8000000 in
set_option maxRecDepth 100000 in
theorem with_ok {w : World} {base p : Nat} {l : Bl} {s : Bs} (h : BeL w base p l s) (hok : BsOk s) {vo : Value} {O : List Opx} (hO : IsO w vo O) (lO : O.length ≤ 40) (zO : ∀ o ∈ O, OpSz o) (he : opS.err O s.N s.T = 0) :
    Calls Tryz.prog 25 #[.pointer (some ⟨p, 0, none⟩), vo] w (WiP s O w) := by
  have hz : wE s O = if confB s.L s.B (opS.res O s.N s.T).1 (opS.res O s.N s.T).2 = true then 0 else 9 := by unfold wE; rw [if_pos he]
  obtain ⟨hs0, hg0, _⟩ := cfE_zero hok.c0
  have hgM : gErr l.M s.T = 0 := by rw [← gErr_c, h.gr.1]; exact hg0
  obtain ⟨zM, zT⟩ := gErr_sz hgM
  obtain ⟨an, cn, hvn⟩ := own_slice h.gr.2.1.1
  obtain ⟨at', ct, hvt⟩ := own_slice h.gr.2.2
  obtain ⟨ak, ck, hvk⟩ := own_slice h.sc.2.1.1
  obtain ⟨ab, cb, hvb⟩ := own_slice h.sc.2.2
  obtain ⟨W0, hW0⟩ : ∃ W0, W0 = w.alloc (.cells #[.slice none 0 0, .slice none 0 0] 29) := ⟨_, rfl⟩
  have hB0 : Below w.heap.size w W0 := by rw [hW0]; exact b_alloc (Below.refl _ _) _
  have n0 : W0.heap[w.heap.size]? = some (.cells #[.slice none 0 0, .slice none 0 0] 29 (0, 0)) := by rw [hW0]; exact heap_alloc_new w _
  have hcs := h.cs
  rw [hvn, hvt, hvk, hvb] at hcs
  have hcs0 := (hB0.block p (Array.getElem?_eq_some_iff.1 hcs).1).trans hcs
  have hplt := (Array.getElem?_eq_some_iff.1 hcs).1
  have y0 : W0.cell? ⟨p, 2, none⟩ = some (.slice an l.M.length cn) := cell_at hcs0 rfl
  have y1 : W0.cell? ⟨p, 3, none⟩ = some (.slice at' s.T.length ct) := cell_at hcs0 rfl
  have hN := h.gr.2.1
  have hT := h.gr.2.2
  have hS := h.sc
  rw [hvn] at hN
  rw [hvt] at hT
  rw [hvk, hvb] at hS
  have c := all_in opS ((hN.kt (.of_below hB0) (.of_below hB0)).isN) ((hT.kt (.of_below hB0)).isT) zM zT hgM (hO.on hB0) lO zO (fun o _ => apply_all o) (fun o _ => keeps_all o)
  have c' : Calls Tryz.prog 27 #[.agg #[.slice an l.M.length cn, .slice at' s.T.length ct], vo] W0 fun e w' => ∃ a n c a' n' c' M, e = .returned (.tuple #[.agg #[.slice a n c, .slice a' n' c'], .int .i64 0, .nilIface]) ∧ (cN M = (opS.res O s.N s.T).1 ∧ OwnNs w' W0.heap.size (.slice a n c) M ∧ OwnTs w' W0.heap.size (.slice a' n' c') (opS.res O s.N s.T).2 ∧ gErr M (opS.res O s.N s.T).2 = 0) ∧ Below W0.heap.size W0 w' := c.mono fun e w' hP => by
    obtain ⟨hB, ⟨h1, un, ut, M, rfl, q1, q2, q3, q4⟩ | ⟨h1, rfl⟩⟩ := hP
    · rw [h.gr.1] at q1 q3 q4
      obtain ⟨a, c, e1⟩ := own_slice q2.1
      obtain ⟨a', c', e2⟩ := own_slice q3
      subst e1 e2
      exact ⟨_, _, _, _, _, _, M, rfl, ⟨q1, q2, q3, q4⟩, hB⟩
    · rw [h.gr.1] at h1
      exact absurd he h1
  have hne : ¬ p = w.heap.size := by omega
  have hs0' : W0.heap.size = w.heap.size + 1 := by rw [hW0]; simp
  have HB := Lib.hid (And.intro hB0 n0)
  have HS0 := Lib.hid hs0'
  obtain ⟨ao, co, hvo, _⟩ := id hO
  subst hvo
  have HCF : Hid (∀ W a n c a' n' c' M, Below w.heap.size w W → cN M = (opS.res O s.N s.T).1 → IsN W (.slice a n c) M → IsT W (.slice a' n' c') (opS.res O s.N s.T).2 → gErr M (opS.res O s.N s.T).2 = 0 → Calls Tryz.prog 39 #[.agg #[.slice ak l.K.length ck, .slice ab s.B.length cb], .agg #[.slice a n c, .slice a' n' c']] W fun e w' => e = .returned (.tuple #[.bool (confB s.L s.B (opS.res O s.N s.T).1 (opS.res O s.N s.T).2), .nilIface]) ∧ Below W.heap.size W w') := fun W a n c a' n' c' M hB q1 q2 q3 q4 => by
    obtain ⟨z1, z2⟩ := gErr_sz q4
    obtain ⟨l1, l2, _⟩ := gErr_lens q4
    have cc := conforms_any ((ownKs_sc hS hok.kz hok.bz).on hB) (N := M) (T := (opS.res O s.N s.T).2) (vg := .agg #[.slice a n c, .slice a' n' c']) ⟨_, _, rfl, q2, q3, z1, z2, by unfold maxLen; omega, by unfold maxLen; omega⟩
    have e1 : confB l.K s.B M (opS.res O s.N s.T).2 = confB s.L s.B (opS.res O s.N s.T).1 (opS.res O s.N s.T).2 := by rw [confB_kq h.sc.1, ← q1, confB_c]
    have e2 : inE l.K s.B M (opS.res O s.N s.T).2 = 0 := by
      unfold inE
      rw [sErr_kq h.sc.1, if_pos hs0, q4]
    rw [e1, e2, errV_0] at cc
    exact cc
  generalize hX : (opS.res O s.N s.T).1 = X at c' HCF hz
  generalize hU : (opS.res O s.N s.T).2 = U at c' HCF hz
  have HXU := Lib.hid (And.intro hX hU)
  have HWE := Lib.hid hz
  have HP : Hid (w.heap[p]? = some (.cells #[.slice ak l.K.length ck, .slice ab s.B.length cb, .slice an l.M.length cn, .slice at' s.T.length ct, .map (some l.mb), .int .i64 s.op, .int .i64 s.age] 78 (0, 0))) := hcs
  clear hN hT hS c hcs hcs0 zM zT hgM hg0 hs0 h hok hO zO hB0 n0 hvn hvt hvk hvb hz hX hU he
  go_enter Tryz.func25, Tryz.ntmps25
  go_upto_region 1 with fail
  rw [← hW0]
  clear hW0
  go_wp2_with (first | (go_at_call 27; refine c'.mono ?_; rintro e W1 ⟨a1, n1, c1, a2, n2, c2, M, rfl, hM, hB1⟩; refine Hid.out ?_; have HM := Lib.hid (And.intro hM hB1); clear hM hB1))
  refine Lib.hid ?_
  go_upto_region 4 with fail
  obtain ⟨hM, hB1⟩ := HM.out
  have hw1 : Below w.heap.size w W1 := on1K HB.out.1 hB1 (Nat.le_refl _)
  obtain ⟨W3, hW3⟩ : ∃ W3, W3 = W1.alloc (.cells #[.slice a1 n1 c1, .slice a2 n2 c2] 29) := ⟨_, rfl⟩
  rw [← hW3]
  have hB3 : Below W1.heap.size W1 W3 := by rw [hW3]; exact b_alloc (Below.refl _ _) _
  have hw3 : Below w.heap.size w W3 := on1K hw1 hB3 (Nat.le_refl _)
  have t3 : W3.heap[W1.heap.size]? = some (.cells #[.slice a1 n1 c1, .slice a2 n2 c2] 29 (0, 0)) := by rw [hW3]; exact heap_alloc_new W1 _
  have hz1 := hB1.size
  have m1 := (hB1.block _ (by have := HS0.out; omega)).trans HB.out.2
  have m3 := (hB3.block _ (Array.getElem?_eq_some_iff.1 m1).1).trans m1
  have p3 := (hw3.block p hplt).trans HP.out
  have y2 : W3.cell? ⟨p, 0, none⟩ = some (.slice ak l.K.length ck) := cell_at p3 rfl
  have y3 : W3.cell? ⟨p, 1, none⟩ = some (.slice ab s.B.length cb) := cell_at p3 rfl
  have y4 : W3.cell? ⟨W1.heap.size, 0, none⟩ = some (.slice a1 n1 c1) := cell_at t3 rfl
  have y5 : W3.cell? ⟨W1.heap.size, 1, none⟩ = some (.slice a2 n2 c2) := cell_at t3 rfl
  have cC := HCF.out W3.drew a1 n1 c1 a2 n2 c2 M (b_drew hw3) hM.1 (hM.2.1.kt (.of_below hB3) (.of_below hB3)).isN (hM.2.2.1.kt (.of_below hB3)).isT hM.2.2.2
  have HQ : Hid (∀ W, Below W3.drew.heap.size W3.drew W → W.cell? ⟨p, 0, none⟩ = some (.slice ak l.K.length ck) ∧ W.cell? ⟨p, 1, none⟩ = some (.slice ab s.B.length cb) ∧ W.cell? ⟨W1.heap.size, 0, none⟩ = some (.slice a1 n1 c1) ∧ W.cell? ⟨W1.heap.size, 1, none⟩ = some (.slice a2 n2 c2)) := fun W hB => by
    have h1 := (hB.block p (Array.getElem?_eq_some_iff.1 p3).1).trans p3
    have h2 := (hB.block _ (Array.getElem?_eq_some_iff.1 t3).1).trans t3
    exact ⟨cell_at h1 rfl, cell_at h1 rfl, cell_at h2 rfl, cell_at h2 rfl⟩
  have HF : Hid (∀ W, Below W3.drew.heap.size W3.drew W → W.heap[w.heap.size]? = some (.cells #[.slice none 0 0, .slice none 0 0] 29 (0, 0)) ∧ Below w.heap.size w W ∧ (cN M = X ∧ OwnNs W w.heap.size (.slice a1 n1 c1) M ∧ OwnTs W w.heap.size (.slice a2 n2 c2) U)) := fun W hB => by
    have hB' := b_undrew hB
    have h31 := on1K hB3 hB' (Nat.le_refl _)
    have hz0 := HS0.out
    exact ⟨(hB'.block _ (Array.getElem?_eq_some_iff.1 m3).1).trans m3, on1K hw3 hB' (Nat.le_refl _), hM.1, (hM.2.1.kt (.of_below h31) (.of_below h31)).base (by omega), own_base (hM.2.2.1.kt (.of_below h31)) (by omega)⟩
  have hbv : ∀ b, confB s.L s.B X U = b → Hid (confB s.L s.B X U = b) := fun b h => h
  generalize hcb : confB s.L s.B X U = cb' at cC
  have HCB := hbv _ hcb
  clear hbv hcb hM hB1 hw1 hW3 hB3 hw3 t3 m1 m3 p3 hz1 y0 y1
  (go_region_held (fun w' => w'.cell? ⟨p, 0, none⟩ = some (.slice ak l.K.length ck) ∧ w'.cell? ⟨p, 1, none⟩ = some (.slice ab s.B.length cb) ∧ w'.cell? ⟨W1.heap.size, 0, none⟩ = some (.slice a1 n1 c1) ∧ w'.cell? ⟨W1.heap.size, 1, none⟩ = some (.slice a2 n2 c2)) (go_keep) (first | (go_at_call 39; refine cC.mono ?_; rintro e W5 ⟨rfl, hB5⟩; obtain ⟨e0, e1, e2, e3⟩ := HQ.out W5 hB5)))
  all_goals
    obtain ⟨m5, hw5, hR⟩ := HF.out W5 hB5
    have k0 : W5.cell? ⟨w.heap.size, 0, none⟩ = some (.slice none 0 0) := cell_at m5 rfl
    have k1 : W5.cell? ⟨w.heap.size, 1, none⟩ = some (.slice none 0 0) := cell_at m5 rfl
    have g0 : W5.frozen? ⟨w.heap.size, 0, none⟩ = false := frz_at m5
    have g1 : W5.frozen? ⟨w.heap.size, 1, none⟩ = false := frz_at m5
    have HR := Lib.hid (And.intro hR (And.intro hw5 m5))
    clear hB5 m5 hw5 hR cC
    by_cases hq : cb' = true
    · subst hq
      have HW0 : Hid (wE s O = 0) := by
        show _ = _
        rw [HWE.out, if_pos HCB.out]
      go_wp2
      obtain ⟨⟨r1, r2, r3⟩, hw5, m5⟩ := HR.out
      have kz : ∀ t, 29 ≠ t → Kt t W5 ((W5.setCell ⟨w.heap.size, 0, none⟩ (.slice a1 n1 c1)).setCell ⟨w.heap.size, 1, none⟩ (.slice a2 n2 c2)) := fun t ht => ((Kt.refl _ _).ty ⟨_, m5⟩ ht _ _).ty (Ty.set ⟨_, m5⟩ _ _ _) ht _ _
      refine bodyPost_ret (v := .tuple #[.agg #[.slice a1 n1 c1, .slice a2 n2 c2], .nilIface]) ?_ rfl ⟨_, _, _, _, _, _, by rw [HW0.out, errV_0], fun _ => ⟨M, by rw [HXU.out.1]; exact r1, r2.kt (kz _ (by decide)) (kz _ (by decide)), by rw [HXU.out.2]; exact r3.kt (kz _ (by decide))⟩, (hw5.setCell (Nat.le_refl _) _).setCell (Nat.le_refl _) _⟩
      simp [results, Tryz.results25, go_sem, k0, k1]
    · have hq' : cb' = false := by simpa using hq
      subst hq'
      have HW0 : Hid (wE s O = 9) := by
        show _ = _
        rw [HWE.out, if_neg (by rw [HCB.out]; decide)]
      clear hq
      go_wp2
      obtain ⟨_, hw5, m5⟩ := HR.out
      refine bodyPost_ret (v := .tuple #[.agg #[.slice none 0 0, .slice none 0 0], .iface 79 (.int .i64 9)]) ?_ rfl ⟨_, _, _, _, _, _, by rw [HW0.out]; rfl, fun h => absurd (h.symm.trans HW0.out) (by decide), (hw5.setCell (Nat.le_refl _) _).setCell (Nat.le_refl _) _⟩
      simp [results, Tryz.results25, go_sem, k0, k1]
theorem with_any {w : World} {base p : Nat} {l : Bl} {s : Bs} (h : BeL w base p l s) (hok : BsOk s) {vo : Value} {O : List Opx} (hO : IsO w vo O) (lO : O.length ≤ 40) (zO : ∀ o ∈ O, OpSz o) : Calls Tryz.prog 25 #[.pointer (some ⟨p, 0, none⟩), vo] w (WiP s O w) := by
  by_cases he : opS.err O s.N s.T = 0
  · exact with_ok h hok hO lO zO he
  · exact with_no h hok hO lO zO he
end Go.Proofs.YtikjmingkadjcaaGreatDoor

/-
  What Commit leaves of a base.
-/
namespace Go.Proofs.YtikjmingkadjcaaGreatDoor
open Go.RowKit Go.Maps
set_option linter.unusedVariables false
set_option linter.unusedSimpArgs false

theorem kt_bp {t : TypeId} {B : Nat} {P : Nat → Prop} {w w' : World} (h : Bp B P w w') (hB : w.heap.size ≤ B) (hl : ∀ x, P x → (∃ es c, w.heap[x]? = some (.map es c)) ∨ ∃ t', t' ≠ t ∧ Ty w x t') : Kt t w w' :=
  ⟨h.size, fun b cs hb => (h.block b (Nat.lt_of_lt_of_le (Array.getElem?_eq_some_iff.1 hb).1 hB) (fun hx => by
    rcases hl b hx with k | ⟨t', hne, k⟩
    · exact Ty.nem ⟨cs, hb⟩ k rfl
    · exact Ty.ne ⟨cs, hb⟩ k (fun e => hne e.symm) rfl)).trans hb⟩
def dropS (s : Bs) (i : Int) : Bs := ⟨s.L, s.B, s.N, s.T, dropI s.F i, s.cnt - 1, s.op, s.age, s.nb⟩
theorem dropI_some {β : Type} {F : Int → Option β} {i j : Int} {x : β} (h : dropI F i j = some x) : j ≠ i ∧ F j = some x := by
  unfold dropI at h
  by_cases e : j = i
  · rw [if_pos e] at h; cases h
  · rw [if_neg e] at h; exact ⟨e, h⟩
theorem dropI_ne {β : Type} {F : Int → Option β} {i j : Int} (h : dropI F i j ≠ none) : F j ≠ none := by
  obtain ⟨x, hx⟩ := Option.ne_none_iff_exists'.1 h
  rw [(dropI_some hx).2]
  exact fun h => by cases h
theorem be_del {w w' : World} {base p : Nat} {l : Bl} {s : Bs} (h : BeL w base p l s) (hb : base ≤ w.heap.size) {i : Int} (hg : w.grownBy w' (some l.mb)) (hm : SMap w' l.mb s.op (s.cnt - 1) (dropI (fun i => (s.F i).map fun _ => l.q i) i)) : BeL w' base p l (dropS s i) ∧ Fr base w w' := by
  have hx : Bx w.heap.size [l.mb] w w' := .of_grown hg (Nat.le_refl _) (fun g hg => .inl (by injection hg with hg; simp [hg]))
  have hf := h.fr hb hx (fun x hx => by rw [List.mem_singleton.1 hx]; exact .inr (.inl rfl))
  have hpm : p ≠ l.mb := Ty.nem ⟨_, h.cs⟩ h.mp.is_map
  refine ⟨⟨(hg.block p (Array.getElem?_eq_some_iff.1 h.cs).1 (fun e => hpm (by injection e))).trans h.cs, h.bp, h.bm, h.sc' hf, h.gr' hf, ?_, fun j y hy => ?_, fun j j' hj hj' hjj => h.ap j j' (dropI_ne hj) (dropI_ne hj') hjj⟩, hf⟩
  · have e : (fun j => ((dropS s i).F j).map fun _ => l.q j) = dropI (fun i => (s.F i).map fun _ => l.q i) i := by
      funext j
      unfold dropS dropI
      simp only
      split <;> rfl
    show SMap w' l.mb s.op (s.cnt - 1) (fun j => ((dropS s i).F j).map fun _ => l.q j)
    rw [e]; exact hm
  · obtain ⟨hji, hy⟩ := dropI_some hy
    obtain ⟨b1, b2, b3, b4, b5⟩ := h.blks (i := j) (by rw [hy]; exact fun h => by cases h)
    exact ⟨h.sn hx hf hy (by simp [b2]) (by simp [b4]) (fun g hg => by simp [(b5 g hg).2]), b4⟩
def takeS (s : Bs) (L : List Int) : Bs := ⟨s.L, s.B, s.N, s.T, fun i => (s.F i).map fun x => x.tk L, s.cnt, s.op, s.age, s.nb + 5000⟩
theorem takeS_some {s : Bs} {L : List Int} {i : Int} {y : Ss} (h : (takeS s L).F i = some y) : ∃ x, s.F i = some x ∧ y = x.tk L := by
  unfold takeS at h
  simp only at h
  cases e : s.F i with
  | none => rw [e] at h; cases h
  | some x => rw [e] at h; exact ⟨x, rfl, (Option.some.inj h).symm⟩
theorem takeS_ne {s : Bs} {L : List Int} {i : Int} (h : (takeS s L).F i ≠ none) : s.F i ≠ none := by
  obtain ⟨y, hy⟩ := Option.ne_none_iff_exists'.1 h
  obtain ⟨x, hx, _⟩ := takeS_some hy
  rw [hx]
  exact fun h => by cases h
theorem be_take {w w' : World} {base p : Nat} {l : Bl} {s : Bs} {L : List Int} (h : BeL w base p l s) (hb : base ≤ w.heap.size) (ht : TkP w l s L w') : BeL w' base p l (takeS s L) ∧ Fr base w w' := by
  obtain ⟨hp, hS⟩ := ht
  have hom : ∀ x, OfM l s x → base ≤ x ∧ ∃ es c, w.heap[x]? = some (.map es c) := fun x ⟨i, hi, e⟩ => by
    obtain ⟨z, hz⟩ := Option.ne_none_iff_exists'.1 hi
    have hs := (h.ss i z hz).1
    subst e
    obtain ⟨_, _, _, _, _, _, _, _, _, _, _, _, _, _, _, hm⟩ := id hs
    exact ⟨hm, hs.lts.2.2.2.2⟩
  have k : ∀ t, Kt t w w' := fun t => kt_bp hp (Nat.le_refl _) (fun x hx => .inl (hom x hx).2)
  have hf : Fr base w w' := ⟨⟨hp.os, hp.tape, hp.output, hp.size, fun x hx => hp.block x (by omega) (fun q => by have := (hom x q).1; omega)⟩, fun t _ _ _ => k t⟩
  have nt : ∀ x t, Ty w x t → ¬ OfM l s x := fun x t hx q => Ty.nem hx (hom x q).2 rfl
  refine ⟨⟨(hp.block p (Array.getElem?_eq_some_iff.1 h.cs).1 (nt _ _ ⟨_, h.cs⟩)).trans h.cs, h.bp, h.bm, h.sc' hf, h.gr' hf, ?_, fun j y hy => ?_, fun j j' hj hj' hjj => h.ap j j' (takeS_ne hj) (takeS_ne hj') hjj⟩, hf⟩
  · have e : (fun j => ((takeS s L).F j).map fun _ => l.q j) = fun j => (s.F j).map fun _ => l.q j := by
      funext j
      unfold takeS
      simp only
      cases s.F j <;> rfl
    have := h.mp.of_block (hp.block _ h.mp.lt (fun ⟨i, hi, e⟩ => by
      obtain ⟨z, hz⟩ := Option.ne_none_iff_exists'.1 hi
      exact (h.ss i z hz).2 e.symm))
    show SMap w' l.mb s.op s.cnt (fun j => ((takeS s L).F j).map fun _ => l.q j)
    rw [e]; exact this
  · obtain ⟨x, hx, rfl⟩ := takeS_some hy
    obtain ⟨hsn, hmm⟩ := h.ss j x hx
    obtain ⟨l1, l2, l3, l4, _⟩ := hsn.lts
    obtain ⟨vn, vt, un, ut, K, M, n, O, h1, ⟨a1, a2, a3⟩, ⟨o0, o1, o2⟩, ⟨b1, b2, b3⟩, _, _, h6, h7⟩ := hsn
    obtain ⟨n', hS', hn'⟩ := hS j x hx
    exact ⟨⟨vn, vt, un, ut, K, M, n', O, (hp.block _ l1 (nt _ _ l4)).trans h1, ⟨a1, a2.kt (k _) (k _), a3.kt (k _)⟩, ⟨o0, own_kt o1 (k _), fun o hm => (o2 o hm).kt (k _)⟩, ⟨b1, b2.kt (k _) (k _), b3.kt (k _)⟩, hS', hn', h6, h7⟩, hmm⟩
def graphS (s : Bs) (N : List Nd) (T : List Te) : Bs := ⟨s.L, s.B, N, T, s.F, s.cnt, s.op, s.age + 1, s.nb⟩
theorem be_fin {w w' : World} {base p : Nat} {l : Bl} {s : Bs} (h : BeL w base p l s) (hb : base ≤ w.heap.size) {un ut : Value} {M : List Nd} {N : List Nd} {T : List Te} (hx : Bx w.heap.size [p] w w')
    (hp : w'.heap[p]? = some (.cells #[l.vk, l.vb, un, ut, .map (some l.mb), .int .i64 s.op, .int .i64 ((s.age + 1 : Nat) : Int)] 78 (0, 0))) (hM : cN M = N ∧ OwnNs w' base un M ∧ OwnTs w' base ut T) : Be w' base p (graphS s N T) ∧ Fr base w w' := by
  have hf := h.fr hb hx (fun x hx => by rw [List.mem_singleton.1 hx]; exact .inl rfl)
  have hpm : l.mb ≠ p := fun e => Ty.nem ⟨_, h.cs⟩ h.mp.is_map e.symm
  refine ⟨⟨⟨l.vk, l.vb, un, ut, l.mb, l.K, M, l.q, l.m, l.v⟩, hp, h.bp, h.bm, h.sc' hf, hM, h.mp.of_block (hx.block _ h.mp.lt (by simp [hpm])), fun j y hy => ?_, h.ap⟩, hf⟩
  obtain ⟨b1, b2, b3, b4, b5⟩ := h.blks (i := j) (by rw [show s.F j = some y from hy]; exact fun h => by cases h)
  exact ⟨h.sn hx hf hy (by simp [b1]) (by simp [b3]) (fun g hg => by simp [(b5 g hg).1]), b4⟩
def lateB (x : Ss) : Bool := (touA x.gT x.O).any fun y => decide (y ∈ x.X)
def cmE (s : Bs) (x : Ss) : Int := if lateB x = true then 10 else wE s x.O
def cmS (s : Bs) (i : Int) (x : Ss) (L : List Int) : Bs := graphS (takeS (dropS s i) L) (opS.res x.O s.N s.T).1 (opS.res x.O s.N s.T).2
theorem late_eq {x : Ss} {L : List Int} (h : ∀ y, y ∈ L ↔ y ∈ touA x.gT x.O) : (L.any fun y => decide (y ∈ x.X)) = lateB x := by
  unfold lateB
  rw [Bool.eq_iff_iff, List.any_eq_true, List.any_eq_true]
  exact ⟨fun ⟨y, a, b⟩ => ⟨y, (h y).1 a, b⟩, fun ⟨y, a, b⟩ => ⟨y, (h y).2 a, b⟩⟩
theorem cmS_ok {s : Bs} {i : Int} {x : Ss} {L : List Int} (h : BsOk s) (hF : s.F i = some x) (ha : s.age < 1000) (hw : wE s x.O = 0) (h64 : ∀ y ∈ L, in64 y) : BsOk (cmS s i x L) := by
  obtain ⟨hs0, hg0, _⟩ := cfE_zero h.c0
  have he : opS.err x.O s.N s.T = 0 := by
    by_cases e : opS.err x.O s.N s.T = 0
    · exact e
    · unfold wE at hw; rw [if_neg e] at hw; exact absurd hw e
  have hc : confB s.L s.B (opS.res x.O s.N s.T).1 (opS.res x.O s.N s.T).2 = true := by
    unfold wE at hw
    rw [if_pos he] at hw
    by_cases e : confB s.L s.B (opS.res x.O s.N s.T).1 (opS.res x.O s.N s.T).2 = true
    · exact e
    · rw [if_neg e] at hw; cases hw
  have hg1 := res_g x.O s.N s.T hg0 he
  refine ⟨?_, h.kz, h.bz, fun j y hy => ?_, h.on, by show s.age + 1 ≤ 1000; omega, by have := h.nl; show s.nb + 5000 ≤ (s.age + 1) * 5000; omega, fun j hj => ?_⟩
  · show cfE s.L s.B (opS.res x.O s.N s.T).1 (opS.res x.O s.N s.T).2 = 0
    unfold cfE inE
    rw [if_pos hs0, if_pos hg1, if_pos hc]
  · obtain ⟨z, hz, rfl⟩ := takeS_some (show (takeS (dropS s i) L).F j = some y from hy)
    obtain ⟨_, hz⟩ := dropI_some hz
    obtain ⟨k1, k2⟩ := h.so j z hz
    exact ⟨⟨k1.g0, k1.e0, k1.r0, k1.l0, k1.z0, fun u hu => by
      rcases List.mem_append.1 hu with hu | hu
      · exact k1.i0 u hu
      · exact h64 u hu⟩, k2⟩
  · exact h.nf j (dropI_ne (takeS_ne (show (takeS (dropS s i) L).F j ≠ none from hj)))
theorem IsI.but {w w' : World} {v : Value} {L : List Int} {b : Nat} (h : IsI w v L) (hm : ∃ es c, w.heap[b]? = some (.map es c)) (hg : w.grownBy w' (some b)) : IsI w' v L := by
  rcases h with h | ⟨g, cap, e, h1, h2, h3⟩
  · exact .inl h
  · by_cases hL : L = []
    · subst hL
      refine .inr ⟨g, cap, e, h1, Nat.lt_of_lt_of_le h2 hg.size, fun k x hx => by simp at hx⟩
    · refine .inr ⟨g, cap, e, h1, Nat.lt_of_lt_of_le h2 hg.size, fun k x hx => ?_⟩
      have hc := h3 k x hx
      have hgb : g ≠ b := fun e => by
        obtain ⟨es, c, hm⟩ := hm
        rw [← e] at hm
        simp [World.cell?, hm] at hc
      rw [← hc]
      exact World.cell?_of_block (hg.block g h2 (fun e => hgb (Option.some.inj e)))
end Go.Proofs.YtikjmingkadjcaaGreatDoor

/-
  The mathematics of SessionLate: one node with a key.
-/
namespace Go.Proofs.YtikjmingkadjcaaGreatDoor
set_option linter.unusedVariables false
set_option linter.unusedSimpArgs false

def lN (id : Int) (rv : Value) : Nd := ⟨id, ⟨#[97]⟩, rv, [prK 1]⟩
def lO (id : Int) (rv : Value) : Opx := ⟨1, lN id rv, ⟨⟨#[]⟩, 0, 0, ⟨#[]⟩⟩, ⟨⟨#[]⟩, 0, 0⟩⟩
end Go.Proofs.YtikjmingkadjcaaGreatDoor
