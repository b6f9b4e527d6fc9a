/-
  The walk of Index.Do.
-/
import Derived.Test.YtjnjbajnmclmjaaGreatDoorM39
import Derived.Test.YtjnjbajnmclmjaaGreatDoorM40
import Derived.Test.YtjnjbajnmclmjaaGreatDoorM12
import Derived.Test.YtjnjbajnmclmjaaGreatDoorM09
import Derived.Test.YtjnjbajnmclmjaaGreatDoorM23
namespace Go.Proofs.YtjnjbajnmclmjaaGreatDoor
open Go.RowKit
set_option linter.unusedVariables false
set_option linter.unusedSimpArgs false

/-- What Do has made ahead of the check. -/
def DoC (w : World) (X : List Nd) (U : List Te) (s5 s6 : Value) (wx : World) : Prop :=
  ∃ q un ut M, s5 = .pointer (some ⟨q, 0, none⟩) ∧ s6 = .nilIface ∧ wx.heap[q]? = some (.cells #[un, ut] 29 (0, 0)) ∧ w.heap.size ≤ q ∧ cN M = X ∧ OwnNs wx w.heap.size un M ∧ OwnTs wx w.heap.size ut U ∧ gErr M U = 0 ∧ Below w.heap.size w wx
theorem doC_alloc {w W2 : World} {un ut : Value} {X M : List Nd} {U : List Te} {B : Nat} (hB : w.heap.size ≤ B) (h1 : OwnNs W2 B un M) (h2 : OwnTs W2 B ut U) (h3 : cN M = X) (h4 : gErr M U = 0) (h6 : Below w.heap.size w W2) :
    DoC w X U (.pointer (some ⟨W2.heap.size, 0, none⟩)) .nilIface (W2.alloc (.cells #[un, ut] 29)) := by
  have hb : Below W2.heap.size W2 (W2.alloc (.cells #[un, ut] 29)) := b_alloc (Below.refl _ _) _
  exact ⟨W2.heap.size, un, ut, M, rfl, rfl, heap_alloc_new W2 _, h6.size, h3, (h1.kt (.of_below hb) (.of_below hb)).base hB, own_base (h2.kt (.of_below hb)) hB, h4, on1K h6 hb (Nat.le_refl _)⟩
theorem doC_set {w W2 : World} {un ut z1 z2 : Value} {X M : List Nd} {U : List Te} {B p2 : Nat} (hp2 : W2.heap[p2]? = some (.cells #[z1, z2] 29 (0, 0))) (hp0 : w.heap.size ≤ p2) (hB : w.heap.size ≤ B) (h1 : OwnNs W2 B un M) (h2 : OwnTs W2 B ut U) (h3 : cN M = X) (h4 : gErr M U = 0) (h6 : Below w.heap.size w W2) :
    DoC w X U (.pointer (some ⟨p2, 0, none⟩)) .nilIface ((W2.setCell ⟨p2, 0, none⟩ un).setCell ⟨p2, 1, none⟩ ut) := by
  have ty : Ty W2 p2 29 := ⟨_, hp2⟩
  have k : ∀ t, 29 ≠ t → Kt t W2 ((W2.setCell ⟨p2, 0, none⟩ un).setCell ⟨p2, 1, none⟩ ut) := fun t ht => ((Kt.refl _ _).ty ty ht _ _).ty (ty.set _ _ _) ht _ _
  exact ⟨p2, un, ut, M, rfl, rfl, heap_setCell_same _ _ 1 _ 29 _ (heap_setCell_same W2 _ 0 _ 29 _ hp2), hp0, h3, (h1.kt (k _ (by decide)) (k _ (by decide))).base hB, own_base (h2.kt (k _ (by decide))) hB, h4, (h6.setCell hp0 _).setCell hp0 _⟩
theorem kq_sz {K L : List Kd} (h : K.map kq3 = L.map kq3) (hz : SzK L) : SzK K := fun k hk => by
  have : kq3 k ∈ L.map kq3 := by rw [← h]; exact List.mem_map.2 ⟨k, hk, rfl⟩
  obtain ⟨k', hk', e⟩ := List.mem_map.1 this
  have e1 : k'.nm = k.nm := congrArg (·.1) e
  have e2 : k'.fs = k.fs := congrArg (·.2.2) e
  rw [← e1, ← e2]
  exact hz k' hk'
theorem ownKs_sc {w : World} {base : Nat} {vk vb : Value} {K L : List Kd} {B : List Bd} (h : K.map kq3 = L.map kq3 ∧ OwnKs w base vk K ∧ OwnBs w base vb B) (hz : SzK L) (hzb : SzB B) : IsSc w (.agg #[vk, vb]) K B :=
  ⟨vk, vb, rfl, own_isK h.2.1.1, fun k hk => ⟨own_isS (h.2.1.2 k hk).1, own_isF (h.2.1.2 k hk).2⟩, kq_sz h.1 hz, own_isB h.2.2, hzb⟩

set_option maxHeartbeats 8000000 in
set_option maxRecDepth 100000 in
theorem ido_any {w : World} {base b : Nat} {L : List Kd} {B : List Bd} {N : List Nd} {T : List Te} (h : Ix w base b L B N T) (hbase : base ≤ w.heap.size) (hcf : cfE L B N T = 0) (hz : SzK L) (hzb : SzB B) {o : Opx} (hR : IsR w o.nd.rv o.nd.rc) (zo : OpSz o) :
    Calls Tryz.prog 7 #[.pointer (some ⟨b, 0, none⟩), o.one] w fun e w' => ∃ v N' T', e = .returned v ∧ Ix w' base b L B N' T' ∧ cfE L B N' T' = 0 ∧ Below base w w' := by
  obtain ⟨hs0, hg0, _⟩ := cfE_zero hcf
  obtain ⟨hk0, hGB, hb12⟩ := sErr_good.1 hs0
  have hH := hpO_ok hk0 hz
  have HI := Lib.hid (And.intro h hcf)
  obtain ⟨vk, vb, vn, vt, s, m1, m2, m3, K, M, i1, hb, hK, hM, hN, k1, k2, k3⟩ := h
  have hgM : gErr M T = 0 := by rw [← gErr_c, hN.1]; exact hg0
  obtain ⟨zM, zT⟩ := gErr_sz hgM
  have hbl := (Array.getElem?_eq_some_iff.1 i1).1
  obtain ⟨W0, hW0⟩ : ∃ W0, W0 = w.alloc (.cells (opA o) 56) := ⟨_, rfl⟩
  have hB0 : Below w.heap.size w W0 := by rw [hW0]; exact b_alloc (Below.refl _ _) _
  have n0 : W0.heap[w.heap.size]? = some (.cells (opA o) 56 (0, 0)) := by rw [hW0]; exact heap_alloc_new w _
  have hs0' : W0.heap.size = w.heap.size + 1 := by rw [hW0]; simp
  have j1 := i1.on hB0
  obtain ⟨ak, ck, hvk⟩ := own_slice hK.2.1.1
  obtain ⟨ab, cb, hvb⟩ := own_slice hK.2.2
  obtain ⟨an, cn, hvn⟩ := own_slice hN.2.1.1
  obtain ⟨am, cm, hvt⟩ := own_slice hN.2.2
  subst hvk hvb hvn hvt
  have HD : Hid (∀ W, Below w.heap.size w W → Calls Tryz.prog 26 #[.agg #[.slice an M.length cn, .slice am T.length cm], o.one] W (DoPost opS M T o W)) := fun W hB => do_in opS ((hN.2.1.kt (.of_below hB) (.of_below hB)).isN) ((hN.2.2.kt (.of_below hB)).isT) zM zT hgM (hR.on hB) zo (apply_all o) (keeps_all o)
  have y3 : W0.cell? ⟨b, 3, none⟩ = some (.slice an M.length cn) := cell_at j1 rfl
  have y4 : W0.cell? ⟨b, 4, none⟩ = some (.slice am T.length cm) := cell_at j1 rfl
  have hne : ¬ b = w.heap.size := by omega
  obtain ⟨av, lv, cv, hv⟩ := hR.sl
  have HIx : Hid (∀ W, Below w.heap.size w W → IxC W b (.slice ak K.length ck) (.slice ab B.length cb) (.slice an M.length cn) (.slice am T.length cm) s m1 m2 m3) := fun W hB => i1.on hB
  have HC : Hid (∀ W un ut M' U, Below w.heap.size w W → IsN W un M' → IsT W ut U → gErr M' U = 0 → Calls Tryz.prog 20 #[.agg #[.slice ak K.length ck, .slice ab B.length cb], .agg #[un, ut]] W fun e w' => e = .returned (errV (cfE L B (cN M') U)) ∧ Below W.heap.size W w') := fun W un ut M' U hB h1 h2 h3 => by
    obtain ⟨z1, z2⟩ := gErr_sz h3
    obtain ⟨l1, l2, _⟩ := gErr_lens h3
    have c := conform_any ((ownKs_sc hK hz hzb).on hB) (N := M') (T := U) (vg := .agg #[un, ut]) ⟨_, _, rfl, h1, h2, z1, z2, by unfold maxLen; omega, by unfold maxLen; omega⟩
    rw [cfE_kq hK.1, ← cfE_c] at c
    exact c
  have HP : Hid (∀ W p a n c a' n' c' M' U, Below w.heap.size w W → OwnNs W w.heap.size (.slice a n c) M' → OwnTs W w.heap.size (.slice a' n' c') U → gErr M' U = 0 → cfE L B (cN M') U = 0 → p = b → Calls Tryz.prog 23 #[.pointer (some ⟨p, 0, none⟩), .agg #[.slice a n c, .slice a' n' c']] W fun e w' => e = .returned (.tuple #[]) ∧ (Ix w' base b L B (cN M') U ∧ Below base w w')) := fun W p a n c a' n' c' M' U hB h1 h2 h3 h4 hp => by
    subst hp
    obtain ⟨z1, z2⟩ := gErr_sz h3
    obtain ⟨l1, l2, _⟩ := gErr_lens h3
    have hxW : IxC W p _ _ _ _ s m1 m2 m3 := i1.on hB
    refine (put_any hxW (hM.on hB) hH h1.isN h2.isT (nds_ok h3 z1) (tes_ok h3 z2) l1 l2).mono ?_
    rintro e w' ⟨m1', m2', m3', rfl, q1, q2, q3, q4, q5⟩
    have hk : ∀ t, t ≠ 86 → Kt t W w' := fun t ht => Kt.of_grown hxW (fun e => ht e.symm) q5
    have hkw : ∀ t, t ≠ 86 → Kt t w w' := fun t ht => (Kt.of_below hB).trans (hk t ht)
    obtain ⟨es, cc, hsm⟩ := hM.is_map
    have hsp := map_ne i1 hsm
    have hslt := (Array.getElem?_eq_some_iff.1 hsm).1
    have hM6 : MapHp w' base s (hpO L L) := hM.kt ((q5.block s (Nat.lt_of_lt_of_le hslt hB.size) (by simp; exact hsp)).trans (hB.block s hslt)) (hkw 9 (by decide))
    have hbW : base ≤ W.heap.size := Nat.le_trans hbase hB.size
    rw [← tabK_c] at q2 q3
    refine ⟨rfl, ⟨_, _, _, _, s, m1', m2', m3', K, M', q1, hb, ⟨hK.1, hK.2.1.kt (hkw _ (by decide)) (hkw _ (by decide)) (hkw _ (by decide)), own_kt hK.2.2 (hkw _ (by decide))⟩, hM6, ⟨rfl, (h1.kt (hk _ (by decide)) (hk _ (by decide))).base hbase, own_base (h2.kt (hk _ (by decide))) hbase⟩, q2.base hbW, q3, q4.base hbW⟩, ?_⟩
    exact below_grown (hB.mono hbase) q5 hbW (fun g hg => by injection hg with hg; omega)
  have hcc : opS.e o (cN M) T = opS.e o N T := by rw [hN.1]
  by_cases hz0 : opS.e o (cN M) T = 0
  · have HD1 : Hid (∀ W, Below w.heap.size w W → Calls Tryz.prog 26 #[.agg #[.slice an M.length cn, .slice am T.length cm], o.one] W fun e w' => ∃ a n c a' n' c' M', e = .returned (.tuple #[.agg #[.slice a n c, .slice a' n' c'], .nilIface]) ∧ (cN M' = opS.m o (cN M) T ∧ OwnNs w' w.heap.size (.slice a n c) M' ∧ OwnTs w' w.heap.size (.slice a' n' c') (opS.t o (cN M) T) ∧ gErr M' (opS.t o (cN M) T) = 0) ∧ Below W.heap.size W w') := fun W hB => (HD.out W hB).mono fun e w' hP => by
      obtain ⟨hB1, ⟨_, un, ut, M', rfl, q1, q2, q3, q4⟩ | ⟨h1, _⟩⟩ := hP
      · obtain ⟨a, c, rfl⟩ := own_slice q2.1
        obtain ⟨a', c', rfl⟩ := own_slice q3
        exact ⟨_, _, _, _, _, _, M', rfl, ⟨q1, q2.base hB.size, own_base q3 hB.size, q4⟩, hB1⟩
      · exact absurd hz0 h1
    generalize opS.m o (cN M) T = X at HD1
    generalize opS.t o (cN M) T = U at HD1
    have HB0 := Lib.hid (And.intro hB0 n0)
    clear HD hcc hz0 hgM zM zT hK hM hN k1 k2 k3 i1 j1 hR zo hH hk0 hGB hs0 hg0 hcf hz hzb hb12 hb
    have HBs := Lib.hid hbase
    clear hbase
    obtain ⟨wh, ⟨id, kd, rv, rc⟩, ⟨nm, pt, pn, ps⟩, ⟨bd, fr, tt⟩⟩ := o
    simp only at hv
    subst hv
    unfold opA at n0 hW0
    simp only at n0 hW0
    have c0 : W0.cell? ⟨w.heap.size, 0, none⟩ = some (.int .i64 wh) := cell_at n0 rfl
    have c1 : W0.cell? ⟨w.heap.size, 1, none⟩ = some (.int .i64 id) := cell_at n0 rfl
    have c2 : W0.cell? ⟨w.heap.size, 2, none⟩ = some (.string kd) := cell_at n0 rfl
    have c3 : W0.cell? ⟨w.heap.size, 3, none⟩ = some (.slice av lv cv) := cell_at n0 rfl
    have c4 : W0.cell? ⟨w.heap.size, 4, none⟩ = some (.string nm) := cell_at n0 rfl
    have c5 : W0.cell? ⟨w.heap.size, 5, none⟩ = some (.int .i64 pt) := cell_at n0 rfl
    have c6 : W0.cell? ⟨w.heap.size, 6, none⟩ = some (.int .i64 pn) := cell_at n0 rfl
    have c7 : W0.cell? ⟨w.heap.size, 7, none⟩ = some (.string ps) := cell_at n0 rfl
    have c8 : W0.cell? ⟨w.heap.size, 8, none⟩ = some (.string bd) := cell_at n0 rfl
    have c9 : W0.cell? ⟨w.heap.size, 9, none⟩ = some (.int .i64 fr) := cell_at n0 rfl
    have c10 : W0.cell? ⟨w.heap.size, 10, none⟩ = some (.int .i64 tt) := cell_at n0 rfl
    clear n0 hB0
    go_enter Tryz.func7, Tryz.ntmps7
    go_upto_region 1 with fail
    rw [← hW0]
    clear hW0
    go_cut [5, 6] (fun s5 s6 wx => DoC w X U s5 s6 wx)
    case first =>
      go_region_law (first | (go_simp; go_at_call 26; refine (HD1.out _ (by first | exact b_drew HB0.out.1 | exact b_alloc (b_drew HB0.out.1) _)).mono ?_; rintro e W2 ⟨a1, n1, c1', a2, n2, c2', M', rfl, hO, hB2'⟩; have hb2 : Hid (Below w.heap.size w W2) := on1K (by first | exact b_drew HB0.out.1 | exact b_alloc (b_drew HB0.out.1) _) hB2' (Nat.le_refl _); (try (have kb : W2.heap[w.heap.size + 1]? = some (.cells #[.slice none 0 0, .slice none 0 0] 29 (0, 0)) := (hB2'.block _ (by simp [hs0'])).trans (by have := heap_alloc_new W0.drew (.cells #[.slice none 0 0, .slice none 0 0] 29); rw [show W0.drew.heap.size = w.heap.size + 1 from hs0'] at this; exact this); have y5 : W2.cell? ⟨w.heap.size + 1, 0, none⟩ = some (.slice none 0 0) := cell_at kb rfl; have y6 : W2.cell? ⟨w.heap.size + 1, 1, none⟩ = some (.slice none 0 0) := cell_at kb rfl; have f5 : W2.frozen? ⟨w.heap.size + 1, 0, none⟩ = false := frz_at kb; have f6 : W2.frozen? ⟨w.heap.size + 1, 1, none⟩ = false := frz_at kb; replace kb := Lib.hid kb)); have HO := Lib.hid hO; clear hO hB2'))
      all_goals
        go_wp2
        go_meet
        first
          | exact doC_alloc (Nat.le_refl _) HO.out.2.1 HO.out.2.2.1 HO.out.1 HO.out.2.2.2 hb2.out
          | exact doC_set kb.out (by omega) (Nat.le_refl _) HO.out.2.1 HO.out.2.2.1 HO.out.1 HO.out.2.2.2 hb2.out
    case rest =>
    obtain ⟨q, un, ut, M', rfl, rfl, r1, r1', r2, r3, r4, r5, r6⟩ := hcut
    obtain ⟨a1, d1, hv1⟩ := own_slice r3.1
    obtain ⟨a2, d2, hv2⟩ := own_slice r4
    subst hv1 hv2
    have hxc := HIx.out wc r6
    have z0 : wc.cell? ⟨b, 0, none⟩ = some (.slice ak K.length ck) := cell_at hxc rfl
    have z1 : wc.cell? ⟨b, 1, none⟩ = some (.slice ab B.length cb) := cell_at hxc rfl
    have w0 : wc.cell? ⟨q, 0, none⟩ = some (.slice a1 M'.length d1) := cell_at r1 rfl
    have w1 : wc.cell? ⟨q, 1, none⟩ = some (.slice a2 U.length d2) := cell_at r1 rfl
    have cC := HC.out wc.drew _ _ M' U (b_drew r6) r3.isN r4.isT r5
    have HQ : Hid (∀ W, Below wc.drew.heap.size wc.drew W → W.cell? ⟨b, 0, none⟩ = some (.slice ak K.length ck) ∧ W.cell? ⟨b, 1, none⟩ = some (.slice ab B.length cb) ∧ W.cell? ⟨q, 0, none⟩ = some (.slice a1 M'.length d1) ∧ W.cell? ⟨q, 1, none⟩ = some (.slice a2 U.length d2)) := fun W hB => by
      have h1 := (hB.block b (Array.getElem?_eq_some_iff.1 hxc).1).trans hxc
      have h2 := (hB.block q (Array.getElem?_eq_some_iff.1 r1).1).trans r1
      exact ⟨cell_at h1 rfl, cell_at h1 rfl, cell_at h2 rfl, cell_at h2 rfl⟩
    have HF := Lib.hid (And.intro r3 (And.intro r4 (And.intro r5 r6)))
    clear hxc r1 r1' r2 r3 r4 r5 r6 y3 y4 c0 c1 c2 c3 c4 c5 c6 c7 c8 c9 c10
    by_cases hcf2 : cfE L B (cN M') U = 0
    · rw [hcf2, errV_0] at cC
      have HZ := Lib.hid hcf2
      clear hcf2
      go_upto_region 4 with fail
      first | (go_region_held (fun w' => w'.cell? ⟨b, 0, none⟩ = some (.slice ak K.length ck) ∧ w'.cell? ⟨b, 1, none⟩ = some (.slice ab B.length cb) ∧ w'.cell? ⟨q, 0, none⟩ = some (.slice a1 M'.length d1) ∧ w'.cell? ⟨q, 1, none⟩ = some (.slice a2 U.length d2)) (go_keep) (first | (go_at_call 20; refine cC.mono ?_; rintro e W3 ⟨rfl, hB3⟩; obtain ⟨e0, e1, e2, e3⟩ := HQ.out W3 hB3))) | fail
      all_goals
        have hB3' := b_undrew hB3
        have cP := HP.out W3 b _ _ _ _ _ _ M' U (on1K HF.out.2.2.2 hB3' (Nat.le_refl _)) (HF.out.1.kt (.of_below hB3') (.of_below hB3')) (HF.out.2.1.kt (.of_below hB3')) HF.out.2.2.1 HZ.out rfl
        clear hB3' hB3 cC
        go_wp2_with (first | (go_at_call 23; refine cP.mono ?_; rintro e W4 ⟨rfl, hx4, hB4⟩))
        go_ret
        exact ⟨_, _, _, rfl, hx4, HZ.out, hB4⟩
    · rw [errV_ne hcf2] at cC
      generalize cfE L B (cN M') U = zz at cC
      clear hcf2
      go_upto_region 4 with fail
      first | (go_region_held (fun w' => w'.cell? ⟨b, 0, none⟩ = some (.slice ak K.length ck) ∧ w'.cell? ⟨b, 1, none⟩ = some (.slice ab B.length cb) ∧ w'.cell? ⟨q, 0, none⟩ = some (.slice a1 M'.length d1) ∧ w'.cell? ⟨q, 1, none⟩ = some (.slice a2 U.length d2)) (go_keep) (first | (go_at_call 20; refine cC.mono ?_; rintro e W3 ⟨rfl, hB3⟩; obtain ⟨e0, e1, e2, e3⟩ := HQ.out W3 hB3))) | fail
      all_goals
        have hB3' := b_undrew hB3
        have H3 : Hid (Below w.heap.size w W3) := on1K HF.out.2.2.2 hB3' (Nat.le_refl _)
        clear hB3' hB3 cC
        go_wp2
        go_ret
        exact ⟨_, N, T, rfl, HI.out.1.on H3.out, HI.out.2, H3.out.mono HBs.out⟩
  · have HD1 : Hid (∀ W, Below w.heap.size w W → Calls Tryz.prog 26 #[.agg #[.slice an M.length cn, .slice am T.length cm], o.one] W fun e w' => ∃ z, e = .returned (.tuple #[.agg #[.slice none 0 0, .slice none 0 0], .iface 92 (.int .i64 z)]) ∧ Below W.heap.size W w') := fun W hB => (HD.out W hB).mono fun e w' hP => by
      obtain ⟨hB1, ⟨h1, _⟩ | ⟨h1, rfl⟩⟩ := hP
      · exact absurd h1 hz0
      · exact ⟨_, by rw [errV_ne h1], hB1⟩
    have HB0 := Lib.hid (And.intro hB0 n0)
    clear HD hcc hz0 hgM zM zT hK hM hN k1 k2 k3 i1 j1 hR zo hH hk0 hGB hs0 hg0 hcf hz hzb hb12 hb
    have HBs := Lib.hid hbase
    clear hbase
    obtain ⟨wh, ⟨id, kd, rv, rc⟩, ⟨nm, pt, pn, ps⟩, ⟨bd, fr, tt⟩⟩ := o
    simp only at hv
    subst hv
    unfold opA at n0 hW0
    simp only at n0 hW0
    have c0 : W0.cell? ⟨w.heap.size, 0, none⟩ = some (.int .i64 wh) := cell_at n0 rfl
    have c1 : W0.cell? ⟨w.heap.size, 1, none⟩ = some (.int .i64 id) := cell_at n0 rfl
    have c2 : W0.cell? ⟨w.heap.size, 2, none⟩ = some (.string kd) := cell_at n0 rfl
    have c3 : W0.cell? ⟨w.heap.size, 3, none⟩ = some (.slice av lv cv) := cell_at n0 rfl
    have c4 : W0.cell? ⟨w.heap.size, 4, none⟩ = some (.string nm) := cell_at n0 rfl
    have c5 : W0.cell? ⟨w.heap.size, 5, none⟩ = some (.int .i64 pt) := cell_at n0 rfl
    have c6 : W0.cell? ⟨w.heap.size, 6, none⟩ = some (.int .i64 pn) := cell_at n0 rfl
    have c7 : W0.cell? ⟨w.heap.size, 7, none⟩ = some (.string ps) := cell_at n0 rfl
    have c8 : W0.cell? ⟨w.heap.size, 8, none⟩ = some (.string bd) := cell_at n0 rfl
    have c9 : W0.cell? ⟨w.heap.size, 9, none⟩ = some (.int .i64 fr) := cell_at n0 rfl
    have c10 : W0.cell? ⟨w.heap.size, 10, none⟩ = some (.int .i64 tt) := cell_at n0 rfl
    clear n0 hB0
    go_enter Tryz.func7, Tryz.ntmps7
    go_upto_region 1 with fail
    rw [← hW0]
    clear hW0
    go_cut [5, 6] (fun s5 s6 wx => (∃ zz : Int, s6 = .iface 92 (.int .i64 zz)) ∧ Below w.heap.size w wx)
    case first =>
      go_region_law (first | (go_simp; go_at_call 26; refine (HD1.out _ (by first | exact b_drew HB0.out.1 | exact b_alloc (b_drew HB0.out.1) _)).mono ?_; rintro e W2 ⟨z2, rfl, hB2'⟩; have hb2 : Hid (Below w.heap.size w W2) := on1K (by first | exact b_drew HB0.out.1 | exact b_alloc (b_drew HB0.out.1) _) hB2' (Nat.le_refl _); (try (have kb : W2.heap[w.heap.size + 1]? = some (.cells #[.slice none 0 0, .slice none 0 0] 29 (0, 0)) := (hB2'.block _ (by simp [hs0'])).trans (by have := heap_alloc_new W0.drew (.cells #[.slice none 0 0, .slice none 0 0] 29); rw [show W0.drew.heap.size = w.heap.size + 1 from hs0'] at this; exact this); have y5 : W2.cell? ⟨w.heap.size + 1, 0, none⟩ = some (.slice none 0 0) := cell_at kb rfl; have y6 : W2.cell? ⟨w.heap.size + 1, 1, none⟩ = some (.slice none 0 0) := cell_at kb rfl; have f5 : W2.frozen? ⟨w.heap.size + 1, 0, none⟩ = false := frz_at kb; have f6 : W2.frozen? ⟨w.heap.size + 1, 1, none⟩ = false := frz_at kb; replace kb := Lib.hid kb)); clear hB2'))
      all_goals
        go_wp2
        go_meet
        first
          | exact ⟨⟨_, rfl⟩, b_alloc hb2.out _⟩
          | exact ⟨⟨_, rfl⟩, (hb2.out.setCell (by show _ ≤ w.heap.size + 1; omega) _).setCell (by show _ ≤ w.heap.size + 1; omega) _⟩
    case rest =>
    obtain ⟨⟨zz, rfl⟩, r6⟩ := hcut
    have H6 := Lib.hid r6
    clear r6
    go_wp2
    go_ret
    exact ⟨_, N, T, rfl, HI.out.1.on H6.out, HI.out.2, H6.out.mono HBs.out⟩
end Go.Proofs.YtjnjbajnmclmjaaGreatDoor

/-
  The walk of check.Count, where there is such a kind.
-/
namespace Go.Proofs.YtjnjbajnmclmjaaGreatDoor
open Go.RowKit
set_option linter.unusedVariables false
set_option linter.unusedSimpArgs false

/-- Is a node of that kind? -/
def ofK (H : ByteArray → Option Sh) (nm : Nm) (n : Nd) : Bool := hasN ((H n.kd).getD sh0).kn nm
def cntK (H : ByteArray → Option Sh) (nm : Nm) (N : List Nd) : Nat := (N.filter (ofK H nm)).length
theorem cntK_take {H : ByteArray → Option Sh} {nm : Nm} {N : List Nd} {i : Nat} {n : Nd} (h : N[i]? = some n) : cntK H nm (N.take (i + 1)) = cntK H nm (N.take i) + (if ofK H nm n = true then 1 else 0) := by
  obtain ⟨hi, rfl⟩ := List.getElem?_eq_some_iff.1 h
  unfold cntK
  rw [List.take_succ_eq_append_getElem hi, List.filter_append, List.length_append]
  congr 1
  cases hf : ofK H nm N[i] <;> simp [List.filter, hf]
theorem cntK_le (H : ByteArray → Option Sh) (nm : Nm) (N : List Nd) : cntK H nm N ≤ N.length := List.length_filter_le _ _
theorem isSh_sl {w : World} {v : Value} {h : Sh} (hs : IsSh w v h) : ∃ a n c a' n' c' a'' n'' c'', v = .agg #[.slice a n c, .slice a' n' c', .slice a'' n'' c''] := by
  obtain ⟨vk, vf, vb, rfl, h1, h2, h3⟩ := hs
  obtain ⟨a1, c1, rfl, _⟩ := h1.sln
  obtain ⟨a2, c2, rfl, _⟩ := h2.sln
  obtain ⟨a3, c3, rfl, _⟩ := h3.sln
  exact ⟨_, _, _, _, _, _, _, _, _, rfl⟩

set_option maxHeartbeats 8000000 in
set_option maxRecDepth 100000 in
theorem count_any {vs vg : Value} {L : List Kd} {B : List Bd} {N : List Nd} {T : List Te} {w : World} (hs : IsSc w vs L B) (hg : IsG w vg N T) (he : (sErr L B).2 = 0) (hg0 : gErr N T = 0) {nm : Nm} (hnm : nm.length ≤ maxLen) (hsome : (shO L B L (bs nm)).isSome = true) :
    Calls Tryz.prog 12 #[vs, vg, .string (bs nm)] w fun e w' => e = .returned (.tuple #[.int .i64 (cntK (shO L B L) nm N), .nilIface]) ∧ Below w.heap.size w w' := by
  obtain ⟨vk, vb, rfl, hK, hP, hz, hb, hzb⟩ := hs
  obtain ⟨vn, vt, rfl, hN, hT, zN, zT, lN, lT⟩ := hg
  have hok := shO_ok he hz hzb
  have HP0 : Hid (IsN w vn N ∧ IsT w vt T ∧ ∀ n ∈ N, NdOk n) := ⟨hN, hT, nds_ok hg0 zN⟩
  obtain ⟨l60, _⟩ := gErr_lens hg0
  obtain ⟨W0, hW0⟩ : ∃ W0, W0 = box2 w #[vk, vb] 25 #[vn, vt] 29 := ⟨_, rfl⟩
  have HB0 : Hid (Below w.heap.size w W0) := by rw [hW0]; exact box2_below _ _ _ _ _
  have hs0 : W0.heap.size = w.heap.size + 2 := by rw [hW0]; exact box2_size _ _ _ _ _
  have x0 : W0.cell? ⟨w.heap.size, 0, none⟩ = some vk := by rw [hW0]; exact box2_a _ _ _ _ _ rfl
  have x1 : W0.cell? ⟨w.heap.size, 1, none⟩ = some vb := by rw [hW0]; exact box2_a _ _ _ _ _ rfl
  have x2 : W0.cell? ⟨w.heap.size + 1, 0, none⟩ = some vn := by rw [hW0]; exact box2_b _ _ _ _ _ rfl
  have x3 : W0.cell? ⟨w.heap.size + 1, 1, none⟩ = some vt := by rw [hW0]; exact box2_b _ _ _ _ _ rfl
  have cP : Calls Tryz.prog 30 #[.agg #[vk, vb]] W0 fun e w' => ∃ b1 b2, e = .returned (.tuple #[.agg #[.map (some b1), .map (some b2)], .nilIface]) ∧ MapSh w' 9 encS b1 (shO L B L) ∧ Below W0.heap.size W0 w' := (planOf_ok (hK.on HB0.out) (hP.on HB0.out) hz (hb.on HB0.out) hzb he).mono fun e w' h => by
    rcases h with ⟨h1, _⟩ | ⟨_, b1, b2, rfl, ⟨c1, c2, e, h1, _⟩, hB⟩
    · exact absurd he h1
    · injection e with e
      obtain ⟨rfl, rfl⟩ : b1 = c1 ∧ b2 = c2 := by simpa using e
      exact ⟨b1, b2, rfl, h1, hB⟩
  have HG : Hid (∀ W, Below w.heap.size w W → Calls Tryz.prog 31 #[.agg #[vn, vt]] W fun e w' => e = .returned .nilIface ∧ Below W.heap.size W w') := fun W hB => by
    have c := gcheck_any (hN.on hB) (hT.on hB) zN zT lN lT
    rw [hg0, errV_0] at c
    exact c
  have HC : Hid (∀ W, Below W0.heap.size W0 W → Below w.heap.size w W ∧ W.cell? ⟨w.heap.size + 1, 0, none⟩ = some vn ∧ W.cell? ⟨w.heap.size + 1, 1, none⟩ = some vt) := fun W hB =>
    ⟨on1K HB0.out hB (Nat.le_refl _), (hB.cell (p := ⟨w.heap.size + 1, 0, none⟩) (by show w.heap.size + 1 < _; omega)).trans x2, (hB.cell (p := ⟨w.heap.size + 1, 1, none⟩) (by show w.heap.size + 1 < _; omega)).trans x3⟩
  obtain ⟨ak, ck, rfl, hl1⟩ := hK.sln
  obtain ⟨ab, cb, rfl, hl2⟩ := hb.sln
  obtain ⟨an, cn, rfl, _⟩ := hN
  obtain ⟨at', ct, rfl, _⟩ := hT
  obtain ⟨ln, hln⟩ := keyS (s := bs nm) (by rw [bs_size]; exact hnm)
  clear hP hz hzb zN zT lN lT hl1 hl2 he hg0 hK hb
  go_enter Tryz.func12, Tryz.ntmps12
  go_upto_region 1 with fail
  unfold box2 at hW0
  rw [← hW0]
  clear hW0
  go_wp2_with (first | (go_at_call 30; refine cP.mono ?_; rintro e W1 ⟨b1, b2, rfl, hM1, hB1⟩; refine Hid.out ?_))
  refine Lib.hid ?_
  obtain ⟨W2, hW2⟩ : ∃ W2, W2 = W1.alloc (.cells #[.map (some b1), .map (some b2)] 107) := ⟨_, rfl⟩
  have hB2 : Below W1.heap.size W1 W2 := by rw [hW2]; exact b_alloc (Below.refl _ _) _
  have n2 : W2.heap[W1.heap.size]? = some (.cells #[.map (some b1), .map (some b2)] 107 (0, 0)) := by rw [hW2]; exact heap_alloc_new W1 _
  have hB02 := on1K hB1 hB2 (Nat.le_refl _)
  obtain ⟨hbw2, y0, y1⟩ := HC.out W2 hB02
  have cG := HG.out W2 hbw2
  have hz1 : w.heap.size + 2 ≤ W1.heap.size := by have := hB1.size; omega
  have H2 := Lib.hid (And.intro hB02 (And.intro n2 (hM1.on hB2)))
  clear hB1 hM1 hB2 n2 hB02 hbw2 cP x0 x1 x2 x3
  have hne : ¬ w.heap.size + 1 = W1.heap.size := by omega
  go_upto_region 4 with fail
  rw [← hW2]
  clear hW2
  go_wp2_with (first | (go_at_call 31; refine cG.mono ?_; rintro e W3 ⟨rfl, hB3⟩; refine Hid.out ?_))
  refine Lib.hid ?_
  have hB03 := on1K H2.out.1 hB3 (Nat.le_refl _)
  have n3 := (hB3.block _ (Array.getElem?_eq_some_iff.1 H2.out.2.1).1).trans H2.out.2.1
  have hM3 := H2.out.2.2.on hB3
  obtain ⟨v5, hs5, hl5, _⟩ := look_sh hM3 keyedS encS_inj Tryz.underlying104 hln
  obtain ⟨p1, p2, p3, p4, p5, p6, p7, p8, p9, hv5⟩ := isSh_sl hs5
  subst hv5
  rw [hsome] at hl5
  unfold encS at hl5
  obtain ⟨_, y0, y1⟩ := HC.out W3 hB03
  have m0 : W3.cell? ⟨W1.heap.size, 0, none⟩ = some (.map (some b1)) := cell_at n3 rfl
  obtain ⟨W4, hW4⟩ : ∃ W4, W4 = W3.alloc (.cells #[.slice p1 p2 p3, .slice p4 p5 p6, .slice p7 p8 p9] 112) := ⟨_, rfl⟩
  have hB4 : Below W3.heap.size W3 W4 := by rw [hW4]; exact b_alloc (Below.refl _ _) _
  have n4 := (hB4.block _ (Array.getElem?_eq_some_iff.1 n3).1).trans n3
  have hB04 := on1K hB03 hB4 (Nat.le_refl _)
  obtain ⟨hbw4, y2, y3⟩ := HC.out W4 hB04
  have hz3 : W1.heap.size < W3.heap.size := (Array.getElem?_eq_some_iff.1 n3).1
  have H4 := Lib.hid (And.intro hB04 (And.intro n4 (hM3.on hB4)))
  clear hB03 n3 hM3 hs5 hB4 n4 hB04 hbw4 cG hB3
  go_upto_region 8 with fail
  rw [← hW4]
  clear hW4
  go_wp2
  go_loopw [13, 42] (fun c i wr => ∃ k : Nat, k ≤ N.length ∧ i = .int .i64 k ∧ c = .int .i64 (cntK (shO L B L) nm (N.take k)) ∧ Below W4.heap.size W4 wr) (fun _ i _ => N.length - (intOf i).toNat)
  case atStart => exact ⟨0, Nat.zero_le _, rfl, rfl, Below.refl _ _⟩
  case round =>
    obtain ⟨k, hk, rfl, rfl, hBr⟩ := hrel
    have hbw : Below w.heap.size w wr := on1K (HC.out W4 H4.out.1).1 hBr (Nat.le_refl _)
    by_cases hlt : k < N.length
    · obtain ⟨x, hx⟩ : ∃ x, N[k]? = some x := ⟨N[k], by simp [hlt]⟩
      have hnd := HP0.out.2.2 x (List.mem_of_getElem? hx)
      obtain ⟨b, off, c, hv, hb, e0, e1, e2, hR⟩ := HP0.out.1.at hx
      injection hv with hv1 hv2 hv3
      subst hv1 hv3
      clear hv2
      have d0 := (hbw.cell (p := ⟨b, off + k * 3, none⟩) hb).trans e0
      have d1 := (hbw.cell (p := ⟨b, off + k * 3 + 1, none⟩) hb).trans e1
      have d2 := (hbw.cell (p := ⟨b, off + k * 3 + 2, none⟩) hb).trans e2
      have HT := Lib.hid (cntK_take (H := shO L B L) (nm := nm) hx)
      have hle : cntK (shO L B L) nm (N.take k) ≤ 60 := Nat.le_trans (cntK_le _ _ _) (by rw [List.length_take]; omega)
      obtain ⟨av, lv, cv, hv⟩ := hR.sl
      obtain ⟨lk, hlk⟩ := keyS hnd.2.2.2.1
      have hofk : ofK (shO L B L) nm x = hasN ((shO L B L x.kd).getD sh0).kn nm := rfl
      obtain ⟨id, kd, rv, rc⟩ := x
      simp only at d0 d1 d2 hv hlk hofk
      subst hv
      obtain ⟨W5, hW5⟩ : ∃ W5, W5 = wr.alloc (.cells #[.int .i64 id, .string kd, .slice av lv cv] 44) := ⟨_, rfl⟩
      have hB5 : Below wr.heap.size wr W5 := by rw [hW5]; exact b_alloc (Below.refl _ _) _
      have n5 : W5.heap[wr.heap.size]? = some (.cells #[.int .i64 id, .string kd, .slice av lv cv] 44 (0, 0)) := by rw [hW5]; exact heap_alloc_new wr _
      have t1 : W5.cell? ⟨wr.heap.size, 1, none⟩ = some (.string kd) := cell_at n5 rfl
      have hB45 := on1K hBr hB5 (Nat.le_refl _)
      have t2 : W5.cell? ⟨W1.heap.size, 0, none⟩ = some (.map (some b1)) := cell_at ((hB45.block _ (Array.getElem?_eq_some_iff.1 H4.out.2.1).1).trans H4.out.2.1) rfl
      obtain ⟨v6, hs6, _, hl6⟩ := look_sh (H4.out.2.2.on hB45) keyedS encS_inj Tryz.underlying104 hlk
      unfold encS at hl6
      have hkn : ((shO L B L kd).getD sh0).kn.length ≤ 1000 := by
        cases hq : shO L B L kd with
        | none => simp [sh0]
        | some h => exact (hok kd h hq).1
      have cI := is_any hs6 hkn nm
      rw [← hofk] at cI
      obtain ⟨o1, o2, o3, o4, o5, o6, o7, o8, o9, hv6⟩ := isSh_sl hs6
      subst hv6
      have HB5 := Lib.hid hB45
      have hbn : ¬ b = wr.heap.size := by have := hbw.size; omega
      have hwn : ¬ W1.heap.size = wr.heap.size := by have := hBr.size; have := (Array.getElem?_eq_some_iff.1 H4.out.2.1).1; omega
      generalize ofK (shO L B L) nm ⟨id, kd, .slice av lv cv, rc⟩ = ob at cI HT
      generalize cntK (shO L B L) nm (N.take k) = ct0 at HT hle
      clear hofk hs6 hkn hB45 hB5 n5 hlk e0 e1 e2 hx hBr hnd hR y2 y3
      cases ob
      all_goals
        go_upto_region 14 with fail
        rw [← hW5]
        clear hW5
        go_wp2_with (first | (go_at_call 32; refine cI.mono ?_; rintro e W6 ⟨rfl, hB6⟩))
        refine ⟨?_, ?_⟩
        · first | exact ⟨k + 1, by omega, by go_num, by rw [HT.out]; first | rfl | go_num, on1K HB5.out hB6 (Nat.le_refl _)⟩ | ((repeat apply Exists.intro); refine ⟨?_, rfl⟩; exact ⟨k + 1, by omega, by go_num, by rw [HT.out]; first | rfl | go_num, on1K HB5.out hB6 (Nat.le_refl _)⟩)
        · simp [intOf]
          try omega
    · obtain rfl : k = N.length := by omega
      rw [List.take_length]
      go_wp2
      go_ret2
      exact ⟨rfl, hbw⟩
end Go.Proofs.YtjnjbajnmclmjaaGreatDoor

/-
  The walk of kind.Is.
-/
namespace Go.Proofs.YtjnjbajnmclmjaaGreatDoor
open Go.RowKit
set_option linter.unusedVariables false
set_option linter.unusedSimpArgs false

/-- The fault of two names. -/
def isErr (L : List Kd) (a b : Nm) : Int := if nmErr L a = 0 then (if idxK b L 0 = -1 then 5 else 0) else nmErr L a
/-- Is one kin of the other? -/
def isKin (L : List Kd) (a b : Nm) : Bool := if isErr L a b = 0 then hasN (nms (kin L a)) b else false
set_option maxHeartbeats 4000000 in
set_option maxRecDepth 100000 in
theorem kis_any {v : Value} {L : List Kd} {w : World} (h : IsK w v L) (hP : Parts w L) (hz : SzK L) (a c : Nm) :
    Calls Tryz.prog 14 #[v, .string (bs a), .string (bs c)] w fun e w' => e = .returned (.tuple #[.bool (isKin L a c), errV (isErr L a c)]) ∧ Below w.heap.size w w' := by
  have c1 := kin_any h hP hz a
  by_cases e1 : nmErr L a = 0
  · obtain ⟨hG, hn, j, q, hx, hat, hq, hqa⟩ := nmErr_zero e1
    have hkl : (nms (kin L a)).length ≤ 1000 := by
      have := (kinOf_sub (L.take (nmAt L a + 1))).2
      unfold nms kin
      simp at this ⊢
      omega
    have HH : Hid (IsK w v L ∧ L.length ≤ 12 ∧ (nms (kin L a)).length ≤ 1000 ∧ nmErr L a = 0) := ⟨h, hn, hkl, e1⟩
    rcases idxK_spec c L 0 with hy | ⟨m, q2, hy, hq2, _⟩
    · have HE : Hid (isErr L a c = 5 ∧ isKin L a c = false ∧ idxK c L 0 = -1) := by
        have e5 : isErr L a c = 5 := by unfold isErr; rw [if_pos e1, if_pos hy]
        exact ⟨e5, by unfold isKin; rw [if_neg (by rw [e5]; decide)], hy⟩
      clear h hP hz hG hn hx hat hq hqa hkl hy
      go_enter Tryz.func14, Tryz.ntmps14
      go_wp2_with (go_at_call 35; refine c1.mono ?_; rintro e W1 ⟨v1, rfl, hown1, hno1, hB1⟩; refine Hid.out ?_)
      refine Lib.hid ?_
      first | rw [e1, errV_0] | rw [errV_0]
      have c2 := index_anyC (HH.out.1.on hB1) HH.out.2.1 c
      rw [HE.out.2.2] at c2
      obtain ⟨a1, n1, rfl⟩ := own_slice (hown1 e1)
      clear c1 hown1 hno1 e1
      go_wp2_with (go_at_call 36; refine c2.mono ?_; rintro e W2 ⟨rfl, hB2⟩)
      go_ret2
      exact ⟨ret_v (by rw [HE.out.1, HE.out.2.1]; rfl), on1K hB1 hB2 (Nat.le_refl _)⟩
    · have hm := (List.getElem?_eq_some_iff.1 hq2).1
      have hm12 : m < 12 := by omega
      have HE : Hid (isErr L a c = 0 ∧ isKin L a c = hasN (nms (kin L a)) c ∧ idxK c L 0 = (m : Int)) := by
        have hy' : idxK c L 0 = (m : Int) := by simpa using hy
        have e5 : isErr L a c = 0 := by unfold isErr; rw [if_pos e1, if_neg (by omega)]
        exact ⟨e5, by unfold isKin; rw [if_pos e5], hy'⟩
      clear h hP hz hG hn hx hat hq hqa hkl hy hq2 hm
      go_enter Tryz.func14, Tryz.ntmps14
      go_wp2_with (go_at_call 35; refine c1.mono ?_; rintro e W1 ⟨v1, rfl, hown1, hno1, hB1⟩; refine Hid.out ?_)
      refine Lib.hid ?_
      first | rw [e1, errV_0] | rw [errV_0]
      have c2 := index_anyC (HH.out.1.on hB1) HH.out.2.1 c
      rw [HE.out.2.2] at c2
      have hO := hown1 e1
      have HO : Hid (W1.ownsRow w.heap.size 9 1 v1 (nms (kin L a)).length (cellsS (nms (kin L a)))) := hO
      clear c1 hown1 hno1 e1 hO
      go_wp2_with (go_at_call 36; refine c2.mono ?_; rintro e W2 ⟨rfl, hB2⟩; refine Hid.out ?_)
      refine Lib.hid ?_
      have c3 := contains_any (own_isS (own_below HO.out hB2)) HH.out.2.2.1 c
      clear c2
      generalize hasN (nms (kin L a)) c = r at c3 HE
      go_wp2_with (go_at_call 25; refine c3.mono ?_; rintro e W3 ⟨rfl, rfl⟩)
      go_ret2
      exact ⟨ret_v (by rw [HE.out.1, HE.out.2.1]; rfl), on1K hB1 hB2 (Nat.le_refl _)⟩
  · have HE : Hid (isErr L a c = nmErr L a ∧ isKin L a c = false ∧ ¬ nmErr L a = 0) := by
      have e5 : isErr L a c = nmErr L a := by unfold isErr; rw [if_neg e1]
      exact ⟨e5, by unfold isKin; rw [if_neg (by rw [e5]; exact e1)], e1⟩
    clear h hP hz
    go_enter Tryz.func14, Tryz.ntmps14
    go_wp2_with (go_at_call 35; refine c1.mono ?_; rintro e W1 ⟨v1, rfl, hown1, hno1, hB1⟩; obtain rfl := hno1 e1; refine Hid.out ?_)
    refine Lib.hid ?_
    rw [errV_ne e1]
    clear c1 hown1 hno1 e1
    go_wp2
    go_ret2
    exact ⟨ret_v (by rw [HE.out.1, HE.out.2.1, errV_ne HE.out.2.2]; rfl), hB1⟩
end Go.Proofs.YtjnjbajnmclmjaaGreatDoor
