/-
  The walk of Commit.
-/
import Derived.Test.YtifhigajonafdaaGreatS42
import Derived.Deep.RegionHeld
namespace Go.Proofs.YtifhigajonafdaaGreat
open Go.RowKit Go.Maps
set_option linter.unusedVariables false
set_option linter.unusedSimpArgs false

theorem wE_o (s : Bs) (O : List Opx) : wE s (cO O) = wE s O := by unfold wE; rw [err_o, res_o]
def CmP (w : World) (base p : Nat) (s : Bs) (i : Int) (x : Ss) (e : Ending) (w' : World) : Prop :=
  e = .returned (errV (cmE s x)) ∧ Fr base w w' ∧ (cmE s x ≠ 0 → Be w' base p s) ∧ (cmE s x = 0 → ∃ L, (∀ y ∈ L, in64 y) ∧ (∀ y, y ∈ L ↔ y ∈ touA x.gT x.O) ∧ Be w' base p (cmS s i x L))

set_option maxHeartbeats 8000000 in
set_option maxRecDepth 100000 in
theorem scommit_any {w : World} {base p : Nat} {s : Bs} (h : Be w base p s) (hok : BsOk s) {i : Int} {x : Ss} (hF : s.F i = some x) (ha : s.age < 1000) (hb : base ≤ w.heap.size) :
    Calls Tryz.prog 10 #[.pointer (some ⟨p, 0, none⟩), .int .i64 i] w (CmP w base p s i x) := by
  obtain ⟨l, hl⟩ := h
  obtain ⟨hsok, hi64⟩ := hok.so i x hF
  obtain ⟨vn, vt, un, ut, K, M, n, O, hq, hg, ⟨hO, hOw⟩, hseen, hS, hnb, hqb, hmb⟩ := (hl.ss i x hF).1
  have hlook := smap_look hl.mp hi64 (q := l.q i) (by show (s.F i).map _ = _; rw [hF]; rfl)
  have y0 : w.cell? ⟨p, 4, none⟩ = some (.map (some l.mb)) := cell_at hl.cs rfl
  obtain ⟨an, cn, e1⟩ := own_slice hg.2.1.1
  obtain ⟨at', ct, e2⟩ := own_slice hg.2.2
  obtain ⟨ao, co, e3⟩ := own_slice hOw.1
  have hgK : gErr K x.gT = 0 := by rw [← gErr_c, hg.1]; exact hsok.g0
  obtain ⟨zK, zT⟩ := gErr_sz hgK
  have hOl : O.length ≤ 40 := by
    have : (cO O).length = x.O.length := by rw [hO]
    have h2 := hsok.l0
    simp [cO] at this
    omega
  have hOe : opS.err O (cN K) x.gT = 0 := by rw [hg.1, ← err_o, hO]; exact hsok.e0
  have hOz : ∀ o ∈ O, OpSz o := fun o ho => by
    have : o.c ∈ x.O := by rw [← hO]; exact List.mem_map.2 ⟨o, ho, rfl⟩
    exact (show OpSz o.c from hsok.z0 _ this)
  have hAll : AllOk K x.gT O := ⟨hOl, hgK, hOe⟩
  have htou : touA x.gT O = touA x.gT x.O := by rw [← hO, tou_o]
  have hid : ∀ y, y ∈ touA x.gT x.O → in64 y := fun y hy => by
    rw [← htou] at hy
    obtain ⟨o, ho, hy⟩ := List.mem_flatMap.1 hy
    obtain ⟨_, ⟨_, _, ht0⟩⟩ := (gErr_iff K x.gT).1 hgK
    exact idOk_64 (tou_ids ht0 O (cN K) x.gT (by rw [gErr_c]; exact hgK) hOe o ho y hy)
  rw [e1] at hg hq
  rw [e2] at hg hq
  have hOw' := hOw
  rw [e3] at hq hOw'
  have q0 : w.cell? ⟨l.q i, 0, none⟩ = some (.slice an K.length cn) := cell_at hq rfl
  have q1 : w.cell? ⟨l.q i, 1, none⟩ = some (.slice at' x.gT.length ct) := cell_at hq rfl
  have q2 : w.cell? ⟨l.q i, 2, none⟩ = some (.slice ao O.length co) := cell_at hq rfl
  have HT : Hid (∀ W, Below w.heap.size w W → Calls Tryz.prog 23 #[.agg #[.slice an K.length cn, .slice at' x.gT.length ct], .slice ao O.length co] W fun e w' => ∃ a c L', e = .returned (.tuple #[.slice a (List.length L') c, .nilIface]) ∧ (IsI w' (.slice a L'.length c) L' ∧ (∀ y, y ∈ L' ↔ y ∈ touA x.gT x.O) ∧ L'.length ≤ 5000) ∧ Below W.heap.size W w') := fun W hB => by
    refine (touched_yes ((hg.2.1.kt (.of_below hB) (.of_below hB)).isN) ((hg.2.2.kt (.of_below hB)).isT) zK zT (hOw'.isO.on hB) hOz hAll).mono ?_
    rintro e w' ⟨v, L', rfl, h1, h2, h3, _, h5⟩
    obtain ⟨a, c, rfl⟩ := h1.sl
    exact ⟨a, c, L', rfl, ⟨h1, fun y => by rw [← htou]; exact h2 y, h3⟩, h5⟩
  have HLt : Hid (∀ W v L', Below w.heap.size w W → IsI W v L' → (∀ y, y ∈ L' ↔ y ∈ touA x.gT x.O) → L'.length ≤ 5000 → Calls Tryz.prog 24 #[.pointer (some ⟨l.q i, 0, none⟩), v] W fun e w' => e = .returned (.bool (lateB x)) ∧ Below W.heap.size W w') := fun W v L' hB h1 h2 h3 => by
    rw [← late_eq h2]
    exact late_any h1 h3 (fun y hy => hid y ((h2 y).1 hy)) ((hB.block _ (Array.getElem?_eq_some_iff.1 hq).1).trans hq) (hS.of_block (hB.block _ hS.lt))
  have HW : Hid (∀ W, Below w.heap.size w W → Calls Tryz.prog 25 #[.pointer (some ⟨p, 0, none⟩), .slice ao O.length co] W (WiP s O W)) := fun W hB => with_any (hl.on hB) hok (hOw'.isO.on hB) hOl hOz
  have HQ : Hid (∀ W, Below w.heap.size w W → W.cell? ⟨l.q i, 0, none⟩ = some (.slice an K.length cn) ∧ W.cell? ⟨l.q i, 1, none⟩ = some (.slice at' x.gT.length ct) ∧ W.cell? ⟨l.q i, 2, none⟩ = some (.slice ao O.length co) ∧ W.cell? ⟨p, 4, none⟩ = some (.map (some l.mb))) := fun W hB => by
    have h1 := (hB.block _ (Array.getElem?_eq_some_iff.1 hq).1).trans hq
    have h2 := (hB.block p (Array.getElem?_eq_some_iff.1 hl.cs).1).trans hl.cs
    exact ⟨cell_at h1 rfl, cell_at h1 rfl, cell_at h1 rfl, cell_at h2 rfl⟩
  have HL := Lib.hid (And.intro hl (And.intro hok (And.intro hi64 hid)))
  have HWE : Hid (wE s O = wE s x.O) := by
    show wE s O = wE s x.O
    rw [← hO, wE_o]
  have HR : Hid (opS.res O s.N s.T = opS.res x.O s.N s.T) := by
    show opS.res O s.N s.T = opS.res x.O s.N s.T
    rw [← hO, res_o]
  clear hl hok hsok hi64 hq hg hO hOw hOw' hseen hS e1 e2 e3 hgK zK zT hOe hOz hAll htou hid
  have HB := Lib.hid hb
  clear hb
  go_enter Tryz.func10, Tryz.ntmps10
  go_upto_region 4 with fail
  clear hlook
  (go_region_held (fun w' => w'.cell? ⟨l.q i, 0, none⟩ = some (.slice an K.length cn) ∧ w'.cell? ⟨l.q i, 1, none⟩ = some (.slice at' x.gT.length ct) ∧ w'.cell? ⟨l.q i, 2, none⟩ = some (.slice ao O.length co)) (go_keep) (first | (go_at_call 23; refine (HT.out _ (by first | exact b_drew (Below.refl _ _) | exact Below.refl _ _)).mono ?_; rintro e W1 ⟨a1, d1, L', rfl, hL', hB1⟩; obtain ⟨k0, k1, k2, _⟩ := HQ.out W1 (b_undrew hB1); have HL1 := Lib.hid (And.intro hL' (b_undrew hB1)); clear hL' hB1)))
  all_goals
    clear q0 q1 q2 k0 k1
    have cl := HLt.out W1 _ L' HL1.out.2 HL1.out.1.1 HL1.out.1.2.1 HL1.out.1.2.2
    by_cases hlb : lateB x = true
    · have HE : Hid (cmE s x = 10) := by
        show _ = _
        unfold cmE
        rw [if_pos hlb]
      rw [hlb] at cl
      clear hlb
      go_wp2_with (first | (go_at_call 24; refine cl.mono ?_; rintro e W2 ⟨rfl, hB2⟩))
      go_ret
      have hB := on1K HL1.out.2 hB2 (Nat.le_refl _)
      exact ⟨by rw [HE.out]; rfl, Fr.of_below hB HB.out, fun _ => ⟨l, HL.out.1.on hB⟩, fun h => absurd (HE.out.symm.trans h) (by decide)⟩
    · have hlb' : lateB x = false := by simpa using hlb
      have HE : Hid (cmE s x = wE s x.O) := by
        show _ = _
        unfold cmE
        rw [if_neg hlb]
      rw [hlb'] at cl
      clear hlb hlb'
      by_cases hw : wE s x.O = 0
      · have HE0 : Hid (cmE s x = 0) := by
          show _ = _
          rw [HE.out, hw]
        have HW0 : Hid (∀ W, Below w.heap.size w W → Calls Tryz.prog 25 #[.pointer (some ⟨p, 0, none⟩), .slice ao O.length co] W fun e w' => ∃ a n c a' n' c' M', e = .returned (.tuple #[.agg #[.slice a n c, .slice a' n' c'], .nilIface]) ∧ (cN M' = (opS.res x.O s.N s.T).1 ∧ OwnNs w' W.heap.size (.slice a n c) M' ∧ OwnTs w' W.heap.size (.slice a' n' c') (opS.res x.O s.N s.T).2) ∧ Below W.heap.size W w') := fun W hB => (HW.out W hB).mono fun e w' hP => by
          obtain ⟨a, n, c, a', n', c', rfl, h1, h2⟩ := hP
          obtain ⟨M', r1, r2, r3⟩ := h1 (by rw [HWE.out]; exact hw)
          rw [HR.out] at r1 r3
          exact ⟨a, n, c, a', n', c', M', by rw [HWE.out, hw]; rfl, ⟨r1, r2, r3⟩, h2⟩
        have HWx := Lib.hid hw
        clear hw
        go_wp2_with (first | (go_at_call 24; refine cl.mono ?_; rintro e W2 ⟨rfl, hB2⟩; have hw2 := on1K HL1.out.2 hB2 (Nat.le_refl _); obtain ⟨_, _, k2, _⟩ := HQ.out W2 hw2; have HB2 := Lib.hid (And.intro hB2 hw2); clear hB2 hw2) | (go_at_call 25; refine (HW0.out _ HB2.out.2).mono ?_; rintro e W3 ⟨a3, n3, c3, a4, n4, c4, M3, rfl, hM3, hB3⟩; refine Hid.out ?_; have HM3 := Lib.hid (And.intro hM3 hB3); clear hM3 hB3))
        refine Lib.hid ?_
        go_upto_region 12 with fail
        obtain ⟨hl, hok, hi64, hid⟩ := HL.out
        obtain ⟨hM3, hB3⟩ := HM3.out
        obtain ⟨W4, hW4⟩ : ∃ W4, W4 = W3.alloc (.cells #[.slice a3 n3 c3, .slice a4 n4 c4] 29) := ⟨_, rfl⟩
        rw [← hW4]
        have hB4 : Below W3.heap.size W3 W4 := by rw [hW4]; exact b_alloc (Below.refl _ _) _
        have t4 : W4.heap[W3.heap.size]? = some (.cells #[.slice a3 n3 c3, .slice a4 n4 c4] 29 (0, 0)) := by rw [hW4]; exact heap_alloc_new W3 _
        have hw3 := on1K HB2.out.2 hB3 (Nat.le_refl _)
        have hw4 := on1K hw3 hB4 (Nat.le_refl _)
        have h14 : Below W1.heap.size W1 W4 := on1K (on1K HB2.out.1 hB3 (Nat.le_refl _)) hB4 (Nat.le_refl _)
        have hl4 := hl.on hw4
        have hb4 : base ≤ W4.heap.size := Nat.le_trans HB.out hw4.size
        obtain ⟨W5, hdel, hM5, hg5⟩ := smap_del hl4.mp hi64 (q := l.q i) (by show (s.F i).map _ = _; rw [hF]; rfl) 0
        obtain ⟨hl5, hf5⟩ := be_del hl4 hb4 hg5 hM5
        have hI5 := (HL1.out.1.1.on h14).but hl4.mp.is_map hg5
        have h64 : ∀ y ∈ L', in64 y := fun y hy => hid y ((HL1.out.1.2.1 y).1 hy)
        have cT := take_any hl5 (by show s.nb ≤ 100000000; have := hok.nl; have := hok.an; omega) hI5 HL1.out.1.2.2 h64
        have k4 : W4.cell? ⟨p, 4, none⟩ = some (.map (some l.mb)) := cell_at hl4.cs rfl
        have hb5 : base ≤ W5.heap.size := Nat.le_trans hb4 hg5.size
        have t5 : W5.heap[W3.heap.size]? = some (.cells #[.slice a3 n3 c3, .slice a4 n4 c4] 29 (0, 0)) := (hg5.block _ (Array.getElem?_eq_some_iff.1 t4).1 (fun e => by
          have e' : W3.heap.size = l.mb := Option.some.inj e
          exact Ty.nem ⟨_, t4⟩ hl4.mp.is_map e')).trans t4
        have HG5 := Lib.hid (And.intro hl5 (And.intro hf5 (And.intro hb5 (And.intro t5 (And.intro hw4 (And.intro hB4 (And.intro hM3 h64)))))))
        have hage : (0 : Int) ≤ s.age := by omega
        have hage2 : (s.age : Int) < 1000 := by omega
        clear hl hok hi64 hid hM3 hB3 hW4 hB4 t4 hw3 hw4 h14 hl4 hb4 hM5 hg5 hl5 hf5 hI5 h64 hb5 t5 k2 cl y0
        have HX6 : Hid (∀ W6, TkP W5 l (dropS s i) L' W6 → BeL W6 base p l (takeS (dropS s i) L') ∧ Fr base W5 W6 ∧ W6.heap[W3.heap.size]? = some (.cells #[.slice a3 n3 c3, .slice a4 n4 c4] 29 (0, 0))) := fun W6 h6 => by
          obtain ⟨hl5, _, hb5, t5, _⟩ := HG5.out
          obtain ⟨r1, r2⟩ := be_take hl5 hb5 h6
          refine ⟨r1, r2, (h6.1.block _ (Array.getElem?_eq_some_iff.1 t5).1 (fun ⟨j, hj, e⟩ => ?_)).trans t5⟩
          obtain ⟨z, hz⟩ := Option.ne_none_iff_exists'.1 hj
          exact Ty.nem ⟨_, t5⟩ (hl5.ss j z hz).1.lts.2.2.2.2 e
        go_wp2_with (first | (go_at_call 26; refine cT.mono ?_; rintro e W6 ⟨rfl, hT6⟩; obtain ⟨hl6, hf6, t6⟩ := HX6.out W6 hT6; have p2 : W6.cell? ⟨p, 2, none⟩ = some l.vn := cell_at hl6.cs rfl; have p3 : W6.cell? ⟨p, 3, none⟩ = some l.vt := cell_at hl6.cs rfl; have p6 : W6.cell? ⟨p, 6, none⟩ = some (.int .i64 s.age) := cell_at hl6.cs rfl; have f2 : W6.frozen? ⟨p, 2, none⟩ = false := frz_at hl6.cs; have f3 : W6.frozen? ⟨p, 3, none⟩ = false := frz_at hl6.cs; have f6 : W6.frozen? ⟨p, 6, none⟩ = false := frz_at hl6.cs; have b0 : W6.cell? ⟨W3.heap.size, 0, none⟩ = some (.slice a3 n3 c3) := cell_at t6 rfl; have b1 : W6.cell? ⟨W3.heap.size, 1, none⟩ = some (.slice a4 n4 c4) := cell_at t6 rfl; have H6 := Lib.hid (And.intro hl6 hf6); clear hT6 hl6 hf6 t6))
        go_ret
        obtain ⟨hl5, hf5, hb5, t5, hw4, hB4, hM3, h64⟩ := HG5.out
        obtain ⟨hl6, hf6⟩ := H6.out
        have hb6 : base ≤ W6.heap.size := Nat.le_trans hb5 hf6.1.size
        have hb2 : base ≤ W2.heap.size := Nat.le_trans HB.out HB2.out.2.size
        have ty6 : Ty W6 p 73 := ⟨_, hl6.cs⟩
        have kz : ∀ t, t ≠ 73 → t ≠ 78 → t ≠ 56 → Kt t W3 (((W6.setCell ⟨p, 2, none⟩ (.slice a3 n3 c3)).setCell ⟨p, 3, none⟩ (.slice a4 n4 c4)).setCell ⟨p, 6, none⟩ (.int .i64 ((s.age : Int) + 1))) := fun t h1 h2 h3 => (((Kt.of_below hB4).trans (hf5.2 t h1 h2 h3)).trans (hf6.2 t h1 h2 h3)).trans ((Kt.refl t W6).ty3 ty6 (fun e => h1 e.symm) _ _ _ _ _ _)
        have hfin := be_fin (un := .slice a3 n3 c3) (ut := .slice a4 n4 c4) (M := M3) hl6 hb6 (bx_set (bx_set (bx_set (Bx.refl _ _ _) (.inl (by simp)) 2 (.slice a3 n3 c3)) (.inl (by simp)) 3 (.slice a4 n4 c4)) (.inl (by simp)) 6 (.int .i64 ((s.age : Int) + 1))) (by
          show _ = some (Obj.cells #[l.vk, l.vb, .slice a3 n3 c3, .slice a4 n4 c4, .map (some l.mb), .int .i64 s.op, .int .i64 ((s.age + 1 : Nat) : Int)] 73 (0, 0))
          rw [show ((s.age + 1 : Nat) : Int) = (s.age : Int) + 1 by omega]
          exact heap_setCell_same _ _ 6 _ 73 _ (heap_setCell_same _ _ 3 _ 73 _ (heap_setCell_same W6 _ 2 _ 73 _ hl6.cs))) ⟨hM3.1, (hM3.2.1.kt (kz _ (by decide) (by decide) (by decide)) (kz _ (by decide) (by decide) (by decide))).base hb2, own_base (hM3.2.2.kt (kz _ (by decide) (by decide) (by decide))) hb2⟩
        exact ⟨by rw [HE0.out]; rfl, (((Fr.of_below hw4 HB.out).trans hf5).trans hf6).trans hfin.2, fun h => absurd HE0.out h, fun _ => ⟨L', h64, HL1.out.1.2.1, hfin.1⟩⟩
      · have HW1 : Hid (∀ W, Below w.heap.size w W → Calls Tryz.prog 25 #[.pointer (some ⟨p, 0, none⟩), .slice ao O.length co] W fun e w' => ∃ a n c a' n' c' z, e = .returned (.tuple #[.agg #[.slice a n c, .slice a' n' c'], .iface 74 (.int .i64 z)]) ∧ errV (cmE s x) = .iface 74 (.int .i64 z) ∧ Below W.heap.size W w') := fun W hB => (HW.out W hB).mono fun e w' hP => by
          obtain ⟨a, n, c, a', n', c', rfl, h1, h2⟩ := hP
          exact ⟨a, n, c, a', n', c', _, by rw [HWE.out, errV_ne hw], by rw [HE.out, errV_ne hw], h2⟩
        have HE1 : Hid (cmE s x ≠ 0) := by
          show cmE s x ≠ 0
          rw [HE.out]; exact hw
        clear hw
        go_wp2_with (first | (go_at_call 24; refine cl.mono ?_; rintro e W2 ⟨rfl, hB2⟩; have hw2 := on1K HL1.out.2 hB2 (Nat.le_refl _); obtain ⟨_, _, k2, _⟩ := HQ.out W2 hw2; have HB2 := Lib.hid (And.intro hB2 hw2); clear hB2 hw2) | (go_at_call 25; refine (HW1.out _ HB2.out.2).mono ?_; rintro e W3 ⟨a3, n3, c3, a4, n4, c4, z, rfl, hz, hB3⟩; have HZ := Lib.hid (And.intro hz hB3); clear hz hB3))
        go_ret
        have hB := on1K HB2.out.2 HZ.out.2 (Nat.le_refl _)
        have hB5 := b_alloc hB (.cells #[.slice a3 n3 c3, .slice a4 n4 c4] 29)
        exact ⟨by rw [HZ.out.1]; rfl, Fr.of_below hB5 HB.out, fun _ => ⟨l, HL.out.1.on hB5⟩, fun h => absurd h HE1.out⟩
end Go.Proofs.YtifhigajonafdaaGreat

/-
  The walk of See.
-/
namespace Go.Proofs.YtifhigajonafdaaGreat
open Go.RowKit Go.Maps
set_option linter.unusedVariables false
set_option linter.unusedSimpArgs false

set_option maxHeartbeats 4000000 in
set_option maxRecDepth 100000 in
theorem see_any {w : World} {base p : Nat} {s : Bs} (h : Be w base p s) (hok : BsOk s) {i : Int} {x : Ss} (hF : s.F i = some x) (hb : base ≤ w.heap.size) : Calls Tryz.prog 8 #[.pointer (some ⟨p, 0, none⟩), .int .i64 i] w fun e w' => ∃ a n c a' n' c' M, e = .returned (.tuple #[.agg #[.slice a n c, .slice a' n' c'], .nilIface]) ∧ (cN M = x.eN ∧ OwnNs w' w.heap.size (.slice a n c) M ∧ OwnTs w' w.heap.size (.slice a' n' c') x.eT) ∧ Below w.heap.size w w' := by
  obtain ⟨l, hl⟩ := h
  obtain ⟨hsok, hi64⟩ := hok.so i x hF
  obtain ⟨vn, vt, un, ut, K, M, n, O, hq, hg, hOO, ⟨hc, hN, hT⟩, hS, hnb, hqb, hmb⟩ := (hl.ss i x hF).1
  have hgM : gErr M x.eT = 0 := by rw [← gErr_c, hc]; exact hsok.eg
  obtain ⟨l60, l120, _⟩ := gErr_lens hgM
  obtain ⟨an, cn, e4⟩ := own_slice hN.1
  obtain ⟨am, cm, e5⟩ := own_slice hT
  have hplt : p < w.heap.size := (Array.getElem?_eq_some_iff.1 hl.cs).1
  have hqlt : l.q i < w.heap.size := (Array.getElem?_eq_some_iff.1 hq).1
  obtain ⟨W0, hW0⟩ : ∃ W0, W0 = w.alloc (.cells #[.slice none 0 0, .slice none 0 0] 29) := ⟨_, rfl⟩
  have hB0 : Below w.heap.size w W0 := by rw [hW0]; exact b_alloc (Below.refl _ _) _
  have n0 : W0.heap[w.heap.size]? = some (.cells #[.slice none 0 0, .slice none 0 0] 29 (0, 0)) := by rw [hW0]; exact heap_alloc_new w _
  have hs0' : W0.heap.size = w.heap.size + 1 := by rw [hW0]; simp
  have hcs0 := (hB0.block p hplt).trans hl.cs
  have hq0 := (hB0.block _ hqlt).trans hq
  have hmp := hl.mp.of_block (hB0.block _ hl.mp.lt)
  have hlook := smap_look hmp hi64 (q := l.q i) (by show (s.F i).map _ = _; rw [hF]; rfl)
  have y0 : W0.cell? ⟨p, 4, none⟩ = some (.map (some l.mb)) := cell_at hcs0 rfl
  rw [e4, e5] at hq0
  have y3 : W0.cell? ⟨l.q i, 3, none⟩ = some (.slice an M.length cn) := cell_at hq0 rfl
  have y4 : W0.cell? ⟨l.q i, 4, none⟩ = some (.slice am x.eT.length cm) := cell_at hq0 rfl
  have hne : ¬ l.q i = w.heap.size := by omega
  have hne1 : ¬ p = w.heap.size := by omega
  have HD1 : Hid (∀ W, Below W0.heap.size W0 W → Calls Tryz.prog 17 #[.agg #[.slice an M.length cn, .slice am x.eT.length cm]] W fun e w' => ∃ a n c a' n' c' M', e = .returned (.agg #[.slice a n c, .slice a' n' c']) ∧ (cN M' = x.eN ∧ OwnNs w' W0.heap.size (.slice a n c) M' ∧ OwnTs w' W0.heap.size (.slice a' n' c') x.eT) ∧ Below W0.heap.size W w') := fun W hB => by
    have hw : Below w.heap.size w W := on1K hB0 hB (Nat.le_refl _)
    rw [e4] at hN
    rw [e5] at hT
    refine (copied_any ((hN.kt (.of_below hw) (.of_below hw)).isN) ((hT.kt (.of_below hw)).isT) l60 l120 (fun n hn => by have := gErr_rc8 hgM n hn; omega)).mono fun e w' hP => ?_
    obtain ⟨un, ut, M', rfl, q1, q2, q3, q4⟩ := hP
    obtain ⟨a, c, e1⟩ := own_slice q2.1
    obtain ⟨a', c', e2⟩ := own_slice q3
    subst e1 e2
    exact ⟨_, _, _, _, _, _, M', rfl, ⟨by rw [← hc]; exact q1, q2.base hB.size, own_base q3 hB.size⟩, q4.mono hB.size⟩
  have HB := Lib.hid (And.intro hB0 (And.intro n0 hs0'))
  clear hN hT hcs0 hq0 hmp hq hg hOO hS hl hok hB0 n0 hgM hs0' e4 e5 hsok hi64
  go_enter Tryz.func8, Tryz.ntmps8
  go_upto_region 1 with fail
  rw [← hW0]
  clear hW0
  go_wp2_with (first | (go_at_call 17; refine (HD1.out _ (by first | exact Below.refl _ _ | exact b_drewK (Below.refl _ _) _ | exact b_drew (Below.refl _ _))).mono ?_; rintro e W1 ⟨a1, n1, c1, a2, n2, c2, M1, rfl, hM, hB1⟩; have m0 := (hB1.block _ (by have := HB.out.2.2; omega)).trans HB.out.2.1; have z0 : W1.cell? ⟨w.heap.size, 0, none⟩ = some (.slice none 0 0) := cell_at m0 rfl; have z1 : W1.cell? ⟨w.heap.size, 1, none⟩ = some (.slice none 0 0) := cell_at m0 rfl; have f0 : W1.frozen? ⟨w.heap.size, 0, none⟩ = false := frz_at m0; have f1 : W1.frozen? ⟨w.heap.size, 1, none⟩ = false := frz_at m0; have HX := Lib.hid (And.intro m0 (And.intro hM hB1)); clear m0 hM hB1))
  obtain ⟨m0, ⟨r1, r2, r3⟩, hB1⟩ := HX.out
  have hle := HB.out.2.2
  have kz : ∀ t, 29 ≠ t → Kt t W1 ((W1.setCell ⟨w.heap.size, 0, none⟩ (.slice a1 n1 c1)).setCell ⟨w.heap.size, 1, none⟩ (.slice a2 n2 c2)) := fun t ht => ((Kt.refl _ _).ty ⟨_, m0⟩ ht _ _).ty (Ty.set ⟨_, m0⟩ _ _ _) ht _ _
  refine bodyPost_ret (v := .tuple #[.agg #[.slice a1 n1 c1, .slice a2 n2 c2], .nilIface]) ?_ rfl ⟨_, _, _, _, _, _, M1, rfl, ⟨r1, (r2.kt (kz _ (by decide)) (kz _ (by decide))).base (by omega), own_base (r3.kt (kz _ (by decide))) (by omega)⟩, ((on1K HB.out.1 hB1 (Nat.le_refl _)).setCell (Nat.le_refl _) _).setCell (Nat.le_refl _) _⟩
  simp [results, Tryz.results8, go_sem, z0, z1]
end Go.Proofs.YtifhigajonafdaaGreat

/-
  The walk of Abort.
-/
namespace Go.Proofs.YtifhigajonafdaaGreat
open Go.RowKit Go.Maps
set_option linter.unusedVariables false
set_option linter.unusedSimpArgs false

theorem dropS_ok {s : Bs} (h : BsOk s) (i : Int) : BsOk (dropS s i) :=
  ⟨h.c0, h.kz, h.bz, fun j x hx => h.so j x (dropI_some hx).2, h.on, h.an, h.nl, fun j hj => h.nf j (dropI_ne hj)⟩

set_option maxHeartbeats 4000000 in
set_option maxRecDepth 100000 in
theorem sabort_any {w : World} {base p : Nat} {s : Bs} (h : Be w base p s) (hok : BsOk s) {i : Int} {x : Ss} (hF : s.F i = some x) (hb : base ≤ w.heap.size) : Calls Tryz.prog 14 #[.pointer (some ⟨p, 0, none⟩), .int .i64 i] w fun e w' => e = .returned .nilIface ∧ Be w' base p (dropS s i) ∧ Fr base w w' := by
  obtain ⟨l, hl⟩ := h
  obtain ⟨hsok, hi64⟩ := hok.so i x hF
  have hlook := smap_look hl.mp hi64 (q := l.q i) (by show (s.F i).map _ = _; rw [hF]; rfl)
  obtain ⟨W5, hdel, hM5, hg5⟩ := smap_del hl.mp hi64 (q := l.q i) (by show (s.F i).map _ = _; rw [hF]; rfl) 0
  obtain ⟨hl5, hf5⟩ := be_del hl hb hg5 hM5
  have y0 : w.cell? ⟨p, 4, none⟩ = some (.map (some l.mb)) := cell_at hl.cs rfl
  have HB := Lib.hid (And.intro hl5 hf5)
  clear hl hok hsok hi64 hM5 hg5 hl5 hf5
  go_enter Tryz.func14, Tryz.ntmps14
  go_wp2
  go_ret
  exact ⟨rfl, ⟨l, HB.out.1⟩, HB.out.2⟩
end Go.Proofs.YtifhigajonafdaaGreat
