/-
  The walk of index.tablesOf.
-/
import Derived.Test.YtifhigajonafdaaGreatS36
import Derived.Test.YtifhigajonafdaaGreatS16
import Derived.Deep.DeepCutAuto
import Derived.Deep.RegionLaw
import Derived.Deep.RegionHeldLaw
import Derived.Deep.RegionHeld3
namespace Go.Proofs.YtifhigajonafdaaGreat
open Go.RowKit
open Go.Maps (Keyed)
set_option linter.unusedVariables false
set_option linter.unusedSimpArgs false

theorem field90_0 (w : World) (a b : Value) : (Instr.field 129 (.agg #[a, b]) 0).run Tryz.prog w = .ok a w := by kernel_rfl
theorem field90_1 (w : World) (a b : Value) : (Instr.field 129 (.agg #[a, b]) 1).run Tryz.prog w = .ok b w := by kernel_rfl
abbrev tbW (w : World) (vn vt : Value) : World := (((((w.alloc (.cells #[vn, vt] 29)).alloc (.cells #[.map none, .map none, .map none] 102)).alloc (.map #[] 0)).alloc (.map #[] 0)).alloc (.map #[] 0)).alloc (.cells #[.map (some (w.heap.size + 1 + 1)), .map (some (w.heap.size + 1 + 1 + 1)), .map (some (w.heap.size + 1 + 1 + 1 + 1))] 102)
theorem tbW_below (w : World) (vn vt : Value) : Below w.heap.size w (tbW w vn vt) := b_alloc (b_alloc (b_alloc (b_alloc (b_alloc (b_alloc (Below.refl _ _) _) _) _) _) _) _
theorem tbW_size (w : World) (vn vt : Value) : (tbW w vn vt).heap.size = w.heap.size + 6 := by simp [tbW]
theorem tbW_0 (w : World) (vn vt : Value) : (tbW w vn vt).heap[w.heap.size]? = some (.cells #[vn, vt] 29 (0, 0)) :=
  (Below.heap_alloc _ _ _ (by simp only [World.size_alloc]; omega)).trans ((Below.heap_alloc _ _ _ (by simp only [World.size_alloc]; omega)).trans ((Below.heap_alloc _ _ _ (by simp only [World.size_alloc]; omega)).trans ((Below.heap_alloc _ _ _ (by simp only [World.size_alloc]; omega)).trans ((Below.heap_alloc _ _ _ (by simp only [World.size_alloc]; omega)).trans (heap_alloc_new w _)))))
theorem tbW_1 (w : World) (vn vt : Value) : (tbW w vn vt).heap[w.heap.size + 1]? = some (.cells #[.map none, .map none, .map none] 102 (0, 0)) := by
  have := heap_alloc_new (w.alloc (.cells #[vn, vt] 29)) (.cells #[.map none, .map none, .map none] 102)
  simp only [World.size_alloc] at this
  exact (Below.heap_alloc _ _ _ (by simp only [World.size_alloc]; omega)).trans ((Below.heap_alloc _ _ _ (by simp only [World.size_alloc]; omega)).trans ((Below.heap_alloc _ _ _ (by simp only [World.size_alloc]; omega)).trans ((Below.heap_alloc _ _ _ (by simp only [World.size_alloc]; omega)).trans this)))
theorem tbW_5 (w : World) (vn vt : Value) : (tbW w vn vt).heap[w.heap.size + 1 + 1 + 1 + 1 + 1]? = some (.cells #[.map (some (w.heap.size + 1 + 1)), .map (some (w.heap.size + 1 + 1 + 1)), .map (some (w.heap.size + 1 + 1 + 1 + 1))] 102 (0, 0)) := by
  have := heap_alloc_new (((((w.alloc (.cells #[vn, vt] 29)).alloc (.cells #[.map none, .map none, .map none] 102)).alloc (.map #[] 0)).alloc (.map #[] 0)).alloc (.map #[] 0)) (.cells #[.map (some (w.heap.size + 1 + 1)), .map (some (w.heap.size + 1 + 1 + 1)), .map (some (w.heap.size + 1 + 1 + 1 + 1))] 102)
  simp only [World.size_alloc] at this
  exact this
theorem tbW_m1 {κ : Type} (k : TypeId) (enc : κ → Value) (w : World) (vn vt : Value) : OwnM (tbW w vn vt) Tryz.prog k enc (w.heap.size + 1 + 1) (fun _ => none) := by
  have := OwnM.made (P := Tryz.prog) (k := k) (enc := enc) ((w.alloc (.cells #[vn, vt] 29)).alloc (.cells #[.map none, .map none, .map none] 102))
  simp only [World.size_alloc] at this
  exact this.of_block ((Below.heap_alloc _ _ _ (by simp only [World.size_alloc]; omega)).trans ((Below.heap_alloc _ _ _ (by simp only [World.size_alloc]; omega)).trans (Below.heap_alloc _ _ _ (by simp only [World.size_alloc]; omega))))
theorem tbW_m2 {κ : Type} (k : TypeId) (enc : κ → Value) (w : World) (vn vt : Value) : OwnM (tbW w vn vt) Tryz.prog k enc (w.heap.size + 1 + 1 + 1) (fun _ => none) := by
  have := OwnM.made (P := Tryz.prog) (k := k) (enc := enc) (((w.alloc (.cells #[vn, vt] 29)).alloc (.cells #[.map none, .map none, .map none] 102)).alloc (.map #[] 0))
  simp only [World.size_alloc] at this
  exact this.of_block ((Below.heap_alloc _ _ _ (by simp only [World.size_alloc]; omega)).trans (Below.heap_alloc _ _ _ (by simp only [World.size_alloc]; omega)))
theorem tbW_m3 {κ : Type} (k : TypeId) (enc : κ → Value) (w : World) (vn vt : Value) : OwnM (tbW w vn vt) Tryz.prog k enc (w.heap.size + 1 + 1 + 1 + 1) (fun _ => none) := by
  have := OwnM.made (P := Tryz.prog) (k := k) (enc := enc) ((((w.alloc (.cells #[vn, vt] 29)).alloc (.cells #[.map none, .map none, .map none] 102)).alloc (.map #[] 0)).alloc (.map #[] 0))
  simp only [World.size_alloc] at this
  exact this.of_block (Below.heap_alloc _ _ _ (by simp only [World.size_alloc]; omega))
theorem mapW_none {κ : Type} {w : World} {base : Nat} {k : TypeId} {enc : κ → Value} {b : Nat} (h : OwnM w Tryz.prog k enc b (fun _ => none)) : MapW w base k enc b (fun _ => none) :=
  ⟨fun _ => none, h, fun x => .inl ⟨rfl, rfl⟩, fun x y v u g _ hv => by cases hv⟩
theorem ti_start (w : World) (vn vt : Value) : TI (tbW w vn vt) (w.heap.size + 1 + 1) (w.heap.size + 1 + 1 + 1) 0 (fun _ => none, fun _ => none) (tbW w vn vt) :=
  ⟨mapW_none (tbW_m1 _ _ _ _ _), tbW_m2 _ _ _ _ _, Bx.refl _ _ _, fun x => Nat.le_refl _⟩

theorem not_mem2 {k a b : Nat} (h1 : k ≠ a) (h2 : k ≠ b) : k ∉ [a, b] := by simp [h1, h2]
theorem set3_heap (w : World) (g i j k : Nat) (u v x : Value) {m : Nat} (h : m ≠ g) : (((w.setCell ⟨g, i, none⟩ u).setCell ⟨g, j, none⟩ v).setCell ⟨g, k, none⟩ x).heap[m]? = w.heap[m]? :=
  (Below.heap_setCell _ _ _ m h).trans ((Below.heap_setCell _ _ _ m h).trans (Below.heap_setCell _ _ _ m h))
def HpOk (H : ByteArray → Option Hp) : Prop := ∀ x p, H x = some p → p.kn.length ≤ 1000 ∧ p.ks.length ≤ 1000 ∧ ∀ a ∈ p.kn, a.length ≤ maxLen
theorem knO_ok {H : ByteArray → Option Hp} (h : HpOk H) (x : ByteArray) : (knO H x).length ≤ 1000 ∧ ∀ a ∈ knO H x, a.length ≤ maxLen := by
  unfold knO
  cases hx : H x with
  | none => exact ⟨by simp, fun a ha => by simp at ha⟩
  | some p => exact ⟨(h x p hx).1, (h x p hx).2.2⟩
theorem ksO_ok {H : ByteArray → Option Hp} (h : HpOk H) (x : ByteArray) : (ksO H x).length ≤ 1000 := by
  unfold ksO
  cases hx : H x with
  | none => simp
  | some p => exact (h x p hx).2.1

set_option maxHeartbeats 16000000 in
set_option maxRecDepth 100000 in
theorem tablesOf_any {s base0 : Nat} {vn vt : Value} {H : ByteArray → Option Hp} {N : List Nd} {T : List Te} {w : World} (hM : MapHp w base0 s H) (hH : HpOk H) (hN : IsN w vn N) (hT : IsT w vt T) (hnd : ∀ n ∈ N, NdOk n) (hte : ∀ t ∈ T, TeOk t) (h60 : N.length ≤ 60) (h120 : T.length ≤ 120) :
    Calls Tryz.prog 47 #[.map (some s), .agg #[vn, vt]] w fun e w' => ∃ m1 m2 m3, e = .returned (.agg #[.map (some m1), .map (some m2), .map (some m3)]) ∧ (w.heap.size ≤ m1 ∧ w.heap.size ≤ m2 ∧ w.heap.size ≤ m3) ∧ MapW w' w.heap.size 9 encS m1 (tabK H N).1 ∧ MapJ w' m2 (tabK H N).2 ∧ MapW w' w.heap.size 166 encD m3 (tabE T) ∧ Below w.heap.size w w' := by
  have HN : Hid (IsN w vn N ∧ IsT w vt T ∧ MapHp w base0 s H) := ⟨hN, hT, hM⟩
  obtain ⟨an, cn, rfl, _⟩ := hN
  obtain ⟨at', ct, rfl, _⟩ := hT
  obtain ⟨W6, hW6⟩ : ∃ W6, W6 = tbW w (.slice an N.length cn) (.slice at' T.length ct) := ⟨_, rfl⟩
  have hB6 : Below w.heap.size w W6 := by rw [hW6]; exact tbW_below _ _ _
  have hs6 : W6.heap.size = w.heap.size + 6 := by rw [hW6]; exact tbW_size _ _ _
  have n0 : W6.heap[w.heap.size]? = some (.cells #[.slice an N.length cn, .slice at' T.length ct] 29 (0, 0)) := by rw [hW6]; exact tbW_0 _ _ _
  have n1 : W6.heap[w.heap.size + 1]? = some (.cells #[.map none, .map none, .map none] 102 (0, 0)) := by rw [hW6]; exact tbW_1 _ _ _
  have n5 : W6.heap[w.heap.size + 1 + 1 + 1 + 1 + 1]? = some (.cells #[.map (some (w.heap.size + 1 + 1)), .map (some (w.heap.size + 1 + 1 + 1)), .map (some (w.heap.size + 1 + 1 + 1 + 1))] 102 (0, 0)) := by rw [hW6]; exact tbW_5 _ _ _
  have hI0 : TI W6 (w.heap.size + 1 + 1) (w.heap.size + 1 + 1 + 1) (0 * 1000) (tabK H (N.take 0)) W6 := by rw [hW6]; exact ti_start w _ _
  have hM3 : OwnM W6 Tryz.prog 166 encD (w.heap.size + 1 + 1 + 1 + 1) (fun _ => none) := by rw [hW6]; exact tbW_m3 _ _ _ _ _
  have x0 : W6.cell? ⟨w.heap.size, 0, none⟩ = some (.slice an N.length cn) := cell_at n0 rfl
  have HB : Hid (∀ W, Bx W6.heap.size [w.heap.size + 1 + 1, w.heap.size + 1 + 1 + 1] W6 W → Below w.heap.size w W ∧ W.heap[w.heap.size]? = some (.cells #[.slice an N.length cn, .slice at' T.length ct] 29 (0, 0)) ∧ W.heap[w.heap.size + 1]? = some (.cells #[.map none, .map none, .map none] 102 (0, 0)) ∧ W.heap[w.heap.size + 1 + 1 + 1 + 1 + 1]? = some (.cells #[.map (some (w.heap.size + 1 + 1)), .map (some (w.heap.size + 1 + 1 + 1)), .map (some (w.heap.size + 1 + 1 + 1 + 1))] 102 (0, 0)) ∧ OwnM W Tryz.prog 166 encD (w.heap.size + 1 + 1 + 1 + 1) (fun _ => none) ∧ w.heap.size + 6 ≤ W.heap.size) := fun W h =>
    ⟨hB6.trans (h.below (by omega) (fun x hx => by simp at hx; omega)), (h.block _ (by omega) (not_mem2 (by omega) (by omega))).trans n0, (h.block _ (by omega) (not_mem2 (by omega) (by omega))).trans n1, (h.block _ (by omega) (not_mem2 (by omega) (by omega))).trans n5, hM3.of_block (h.block _ (by omega) (not_mem2 (by omega) (by omega))), by have := h.size; omega⟩
  have HI0 := Lib.hid hI0
  have hmm := @run_makeMap Tryz.prog
  have hf0 := field90_0
  have hf1 := field90_1
  clear hB6 n0 n1 n5 hI0 hM3 hM
  go_enter Tryz.func47, Tryz.ntmps47
  go_upto_region 2 with fail
  unfold tbW at hW6
  rw [← hW6]
  clear hW6
  go_wp2
  go_loopw [21] (fun i wr => ∃ k : Nat, k ≤ N.length ∧ i = .int .i64 k ∧ TI W6 (w.heap.size + 1 + 1) (w.heap.size + 1 + 1 + 1) (k * 1000) (tabK H (N.take k)) wr) (fun i _ => N.length - (intOf i).toNat)
  case atStart => exact ⟨0, Nat.zero_le _, rfl, HI0.out⟩
  case round =>
    obtain ⟨k, hk, rfl, hTI⟩ := hrel
    obtain ⟨hbw, p0, p1, p5, pM3, hsz⟩ := HB.out wr hTI.2.2.1
    by_cases hlt : k < N.length
    · obtain ⟨x, hx⟩ : ∃ x, N[k]? = some x := ⟨N[k], by simp [hlt]⟩
      have hxm := List.mem_of_getElem? hx
      obtain ⟨z1, z2, z3, z4, z5, z6⟩ := hnd x hxm
      obtain ⟨b, off, c, hv, hb, e0, e1, e2, hR⟩ := HN.out.1.at hx
      injection hv with hv1 hv2 hv3
      subst hv1 hv3
      clear hv2
      have d0 := (hbw.cell (p := ⟨b, off + k * 3, none⟩) hb).trans e0
      have d1 := (hbw.cell (p := ⟨b, off + k * 3 + 1, none⟩) hb).trans e1
      have d2 := (hbw.cell (p := ⟨b, off + k * 3 + 2, none⟩) hb).trans e2
      have HT : Hid (tabK H (N.take (k + 1)) = ndS H (tabK H (N.take k)) x) := foldl_take _ _ hx
      obtain ⟨av, lv, cv, hv⟩ := hR.sl
      have HZ : Hid (Sz x.rc ∧ VOk x.rc ∧ x.rc.length ≤ 8 ∧ IsR w x.rv x.rc) := ⟨z1, z3, rErr_le z2, hR⟩
      obtain ⟨id, kd, rv, rc⟩ := x
      simp only at d0 d1 d2 hv z4 HZ
      subst hv
      obtain ⟨lk, hlk⟩ := keyS z4
      obtain ⟨ak, nk, ck, as', ns, cs', iK, _, hlook⟩ := HN.out.2.2.look2 hlk
      obtain ⟨hkn1, hkn2⟩ := knO_ok hH kd
      have hnk : nk = (knO H kd).length := by
        obtain ⟨a, c, e, _⟩ := iK.sln
        injection e
      subst hnk
      obtain ⟨Wk, hWk⟩ : ∃ W, W = wr := ⟨wr, rfl⟩
      subst hWk
      obtain ⟨Wn, hWn⟩ : ∃ Wn, Wn = Wk.alloc (.cells #[.int .i64 id, .string kd, .slice av lv cv] 48) := ⟨_, rfl⟩
      have hBn : Below Wk.heap.size Wk Wn := by rw [hWn]; exact b_alloc (Below.refl _ _) _
      have nn : Wn.heap[Wk.heap.size]? = some (.cells #[.int .i64 id, .string kd, .slice av lv cv] 48 (0, 0)) := by rw [hWn]; exact heap_alloc_new Wk _
      have y1 : Wn.cell? ⟨Wk.heap.size, 1, none⟩ = some (.string kd) := cell_at nn rfl
      have hl5 := hlook Wn ((on1K hbw hBn (Nat.le_refl _)).block s (by
        obtain ⟨F, q1, _⟩ := HN.out.2.2
        exact q1.lt))
      have HJ : Hid (TI W6 (w.heap.size + 1 + 1) (w.heap.size + 1 + 1 + 1) (k * 1000 + 0) (((knO H kd).take 0).foldl (kinS H ⟨id, kd, .slice av lv cv, rc⟩) (tabK H (N.take k))) Wn ∧ Wn.heap[Wk.heap.size]? = some (.cells #[.int .i64 id, .string kd, .slice av lv cv] 48 (0, 0))) := ⟨hTI.on hBn, nn⟩
      have HWn := Lib.hid hWn
      have HK := Lib.hid (And.intro iK hkn2)
      have hbn : ¬ b = Wk.heap.size := by have := hbw.size; omega
      clear hWn hBn nn hx hxm z1 z2 z3 hR e0 e1 e2 hlook iK hkn2 hTI p0 p1 p5 pM3 hlk
      go_upto_region 5 with fail
      rw [← HWn.out]
      go_wp2
      go_loopw [31] (fun i wr => ∃ j : Nat, j ≤ (knO H kd).length ∧ i = .int .i64 j ∧ TI W6 (w.heap.size + 1 + 1) (w.heap.size + 1 + 1 + 1) (k * 1000 + j) (((knO H kd).take j).foldl (kinS H ⟨id, kd, .slice av lv cv, rc⟩) (tabK H (N.take k))) wr ∧ Kt 48 Wn wr) (fun i _ => (knO H kd).length - (intOf i).toNat)
      case atStart => exact ⟨0, Nat.zero_le _, rfl, HJ.out.1, Kt.refl _ _⟩
      case round =>
        obtain ⟨j, hj, rfl, hT2, hK2⟩ := hrel
        obtain ⟨hbw2, _, _, p5, _, hsz2⟩ := HB.out wr hT2.2.2.1
        by_cases hjl : j < (knO H kd).length
        · obtain ⟨a, ha⟩ : ∃ a, (knO H kd)[j]? = some a := ⟨(knO H kd)[j], by simp [hjl]⟩
          have hal := HK.out.2 a (List.mem_of_getElem? ha)
          have hasz : (bs a).size ≤ maxLen := by rw [bs_size]; exact hal
          obtain ⟨b2, off2, c2, hv, hb2, f0⟩ := HK.out.1.at ha
          injection hv with hv1 hv2 hv3
          subst hv1 hv3
          clear hv2
          have g0 := (hbw2.cell (p := ⟨b2, off2 + j, none⟩) hb2).trans f0
          have HS : Hid (((knO H kd).take (j + 1)).foldl (kinS H ⟨id, kd, .slice av lv cv, rc⟩) (tabK H (N.take k)) = kinS H ⟨id, kd, .slice av lv cv, rc⟩ (((knO H kd).take j).foldl (kinS H ⟨id, kd, .slice av lv cv, rc⟩) (tabK H (N.take k))) a) := foldl_take _ _ ha
          generalize ((knO H kd).take j).foldl (kinS H ⟨id, kd, .slice av lv cv, rc⟩) (tabK H (N.take k)) = S at hT2 HS
          have hne : w.heap.size + 1 + 1 ≠ w.heap.size + 1 + 1 + 1 := by omega
          obtain ⟨a1, n1, k1, a2, n2, k2, w2, w3, r1, r2, r3, r4, r5, r6, r7, r8, r9⟩ := ti_app hT2 hne (by omega) (by omega) hasz id
          obtain ⟨_, _, _, v5, _, _⟩ := HB.out w2 r7
          obtain ⟨hbw3, _, _, u5, _, hsz3⟩ := HB.out w3 r8
          have nr := hK2.2 _ _ HJ.out.2
          have n2' := (r9 48 (by decide)).1.2 _ _ nr
          have n3' := (r9 48 (by decide)).2.2 _ _ nr
          have HR3 := Lib.hid r3
          have t0 : wr.cell? ⟨w.heap.size + 1 + 1 + 1 + 1 + 1, 0, none⟩ = some (.map (some (w.heap.size + 1 + 1))) := cell_at p5 rfl
          have t1 : wr.cell? ⟨Wk.heap.size, 0, none⟩ = some (.int .i64 id) := cell_at nr rfl
          have s0 : w2.cell? ⟨w.heap.size + 1 + 1 + 1 + 1 + 1, 0, none⟩ = some (.map (some (w.heap.size + 1 + 1))) := cell_at v5 rfl
          have s1 : w2.cell? ⟨Wk.heap.size, 0, none⟩ = some (.int .i64 id) := cell_at n2' rfl
          have q0 : w3.cell? ⟨w.heap.size + 1 + 1 + 1 + 1 + 1, 0, none⟩ = some (.map (some (w.heap.size + 1 + 1))) := cell_at u5 rfl
          have q1 : w3.cell? ⟨w.heap.size + 1 + 1 + 1 + 1 + 1, 1, none⟩ = some (.map (some (w.heap.size + 1 + 1 + 1))) := cell_at u5 rfl
          have q2 : w3.cell? ⟨w.heap.size + 1 + 1 + 1 + 1 + 1, 2, none⟩ = some (.map (some (w.heap.size + 1 + 1 + 1 + 1))) := cell_at u5 rfl
          have o0 : w3.cell? ⟨Wk.heap.size, 0, none⟩ = some (.int .i64 id) := cell_at n3' rfl
          have o1 : w3.cell? ⟨Wk.heap.size, 1, none⟩ = some (.string kd) := cell_at n3' rfl
          have o2 : w3.cell? ⟨Wk.heap.size, 2, none⟩ = some (.slice av lv cv) := cell_at n3' rfl
          obtain ⟨la, hla⟩ := keyS hasz
          obtain ⟨_, _, _, as2, ns2, cs2, _, iS, hlook⟩ := HN.out.2.2.look2 hla
          have hl9 := hlook w3 (hbw3.block s (by
            obtain ⟨F, q1, _⟩ := HN.out.2.2
            exact q1.lt))
          have cN := noteKeys_any (m1 := w.heap.size + 1 + 1) (m3 := w.heap.size + 1 + 1 + 1 + 1) (nm := bs a) (kd := kd) (id := id) r6 (iS.on hbw3) (ksO_ok hH _) (HZ.out.2.2.2.on hbw3) (by have := HZ.out.2.2.1; omega) (fun p hp => keyJ hasz (HZ.out.1 p hp).1 (HZ.out.2.1 p hp).1 (HZ.out.2.1 p hp).2.1 (HZ.out.2.1 p hp).2.2)
          have HF : Hid (∀ w4, MapJ w4 (w.heap.size + 1 + 1 + 1) (noteF (bs a) (ksO H (bs a)) id S.2 rc) → w3.grownBy w4 (some (w.heap.size + 1 + 1 + 1)) → TI W6 (w.heap.size + 1 + 1) (w.heap.size + 1 + 1 + 1) (k * 1000 + (j + 1)) (((knO H kd).take (j + 1)).foldl (kinS H ⟨id, kd, .slice av lv cv, rc⟩) (tabK H (N.take k))) w4 ∧ Kt 48 Wn w4) := fun w4 hJ4 hg4 => ⟨by rw [HS.out]; exact ti_note hne r5 r6 r8 hJ4 hg4 (rowA_len hT2.2.2.2 _ _), (hK2.trans (r9 48 (by decide)).2).trans (Kt.of_map r6 hg4)⟩
          clear r3 r5 r6 r7 r8 r9 nr n2' n3' hT2 hK2 u5 v5 p5 hlook iS hla hbw3 f0 ha hal
          unfold idW at r2
          go_upto_region 8 with fail
          first | (go_region_held_law (fun w' => w'.cell? ⟨w.heap.size + 1 + 1 + 1 + 1 + 1, 0, none⟩ = some (.map (some (w.heap.size + 1 + 1))) ∧ w'.cell? ⟨Wk.heap.size, 0, none⟩ = some (.int .i64 id)) (go_keep) ((refine step_append_E rfl (.tmp 41) (.tmp 44) 42 rfl (.slice a1 n1 k1) (.slice (some ⟨wr.heap.size, 0, none⟩) 1 1) (by simp [Act.eval, Act.put]) (by simp [Act.eval, Act.put]) (R := fun v' w' => v' = .slice a2 n2 k2 ∧ w' = w2) ⟨_, _, HR3.out _, rfl, rfl⟩ ?_; rintro v1 w1 ⟨rfl, rfl⟩))) | fail
          all_goals
            go_wp2_with (first | (go_at_call 65; refine cN.mono ?_; rintro e w4 ⟨rfl, hJ4, hg4, hK4⟩))
            refine ⟨?_, ?_⟩
            · first | exact ⟨j + 1, by omega, by go_num, HF.out w4 hJ4 hg4⟩ | ((repeat apply Exists.intro); refine ⟨?_, rfl⟩; exact ⟨j + 1, by omega, by go_num, HF.out w4 hJ4 hg4⟩)
            · simp [intOf]
              try omega
        · obtain rfl : j = (knO H kd).length := by omega
          have HF : Hid (TI W6 (w.heap.size + 1 + 1) (w.heap.size + 1 + 1 + 1) ((k + 1) * 1000) (tabK H (N.take (k + 1))) wr) := by
            rw [List.take_length] at hT2
            show TI _ _ _ _ _ _
            rw [HT.out]
            exact hT2.le (by omega)
          clear hT2 hK2 p5
          go_wp2
          refine ⟨?_, ?_⟩
          · first | exact ⟨k + 1, by omega, by go_num, HF.out⟩ | ((repeat apply Exists.intro); refine ⟨?_, rfl⟩; exact ⟨k + 1, by omega, by go_num, HF.out⟩)
          · simp [intOf]
            try omega
    · obtain rfl : k = N.length := by omega
      rw [List.take_length] at hTI
      obtain ⟨W7, hW7⟩ : ∃ W, W = wr := ⟨wr, rfl⟩
      subst hW7
      have hw7 : w.heap.size + 6 ≤ W7.heap.size := hsz
      have y1 : W7.cell? ⟨w.heap.size, 1, none⟩ = some (.slice at' T.length ct) := cell_at p0 rfl
      have HB7 : Hid (∀ W, Bx W7.heap.size [w.heap.size + 1 + 1 + 1 + 1] W7 W → Below w.heap.size w W ∧ W.heap[w.heap.size + 1]? = some (.cells #[.map none, .map none, .map none] 102 (0, 0)) ∧ W.heap[w.heap.size + 1 + 1 + 1 + 1 + 1]? = some (.cells #[.map (some (w.heap.size + 1 + 1)), .map (some (w.heap.size + 1 + 1 + 1)), .map (some (w.heap.size + 1 + 1 + 1 + 1))] 102 (0, 0)) ∧ MapW W w.heap.size 9 encS (w.heap.size + 1 + 1) (tabK H N).1 ∧ MapJ W (w.heap.size + 1 + 1 + 1) (tabK H N).2 ∧ W7.heap.size ≤ W.heap.size) := fun W h => by
        have hk : Kt 3 W7 W := Kt.of_bx h (fun x hx => by simp at hx; subst hx; exact pM3.is_map)
        refine ⟨hbw.trans (h.below (by omega) (fun x hx => by simp at hx; omega)), (h.block _ (by omega) (by simp; try omega)).trans p1, (h.block _ (by omega) (by simp; try omega)).trans p5, ?_, OwnM.of_block hTI.2.1 (h.block _ (by omega) (by simp; try omega)), h.size⟩
        obtain ⟨F, q1, q2, q3⟩ := hTI.1.on (h.block _ (by omega) (by simp; try omega)) hk
        refine ⟨F, q1, fun x => ?_, q3⟩
        rcases q2 x with e | ⟨v, L, e1, e2, e3⟩
        · exact .inl e
        · exact .inr ⟨v, L, e1, e2, own_base e3 (by omega)⟩
      have HE0 : Hid (TEn W7 (w.heap.size + 1 + 1 + 1 + 1) (0 * 2) (tabE (T.take 0)) W7) := ⟨mapW_none pM3, Bx.refl _ _ _, fun x => Nat.le_refl _⟩
      clear hTI hbw p0 p1 p5 pM3 HB HI0 hk hlt hsz
      go_wp2
      go_loopw [59] (fun i wr => ∃ k : Nat, k ≤ T.length ∧ i = .int .i64 k ∧ TEn W7 (w.heap.size + 1 + 1 + 1 + 1) (k * 2) (tabE (T.take k)) wr) (fun i _ => T.length - (intOf i).toNat)
      case atStart => exact ⟨0, Nat.zero_le _, rfl, HE0.out⟩
      case round =>
        obtain ⟨k, hk, rfl, hTE⟩ := hrel
        obtain ⟨hbw, p1, p5, pK, pJ, hsz⟩ := HB7.out wr hTE.2.1
        by_cases hlt : k < T.length
        · obtain ⟨x, hx⟩ : ∃ x, T[k]? = some x := ⟨T[k], by simp [hlt]⟩
          obtain ⟨z1, z2, z3⟩ := hte x (List.mem_of_getElem? hx)
          obtain ⟨b, off, c, hv, hb, e0, e1, e2⟩ := HN.out.2.1.at hx
          injection hv with hv1 hv2 hv3
          subst hv1 hv3
          clear hv2
          have d0 := (hbw.cell (p := ⟨b, off + k * 3, none⟩) hb).trans e0
          have d1 := (hbw.cell (p := ⟨b, off + k * 3 + 1, none⟩) hb).trans e1
          have d2 := (hbw.cell (p := ⟨b, off + k * 3 + 2, none⟩) hb).trans e2
          have HT : Hid (tabE (T.take (k + 1)) = enS (tabE (T.take k)) x) := foldl_take _ _ hx
          obtain ⟨bd, fr, tt⟩ := x
          simp only at d0 d1 d2 z1 z2 z3
          obtain ⟨Wt, hWt⟩ : ∃ Wt, Wt = wr.alloc (.cells #[.string bd, .int .i64 fr, .int .i64 tt] 54) := ⟨_, rfl⟩
          have hBt : Below wr.heap.size wr Wt := by rw [hWt]; exact b_alloc (Below.refl _ _) _
          have nt : Wt.heap[wr.heap.size]? = some (.cells #[.string bd, .int .i64 fr, .int .i64 tt] 54 (0, 0)) := by rw [hWt]; exact heap_alloc_new wr _
          have t0 : Wt.cell? ⟨wr.heap.size, 0, none⟩ = some (.string bd) := cell_at nt rfl
          have t1 : Wt.cell? ⟨wr.heap.size, 1, none⟩ = some (.int .i64 fr) := cell_at nt rfl
          have t2 : Wt.cell? ⟨wr.heap.size, 2, none⟩ = some (.int .i64 tt) := cell_at nt rfl
          have HWt := Lib.hid (And.intro hBt nt)
          have hst : Wt.heap.size = wr.heap.size + 1 := by rw [hWt]; simp
          have hbn : ¬ b = wr.heap.size := by have := hbw.size; omega
          have HTE := Lib.hid hTE
          have HA : Hid (∀ A B : Array Value, ((Wt.alloc (.cells A 166)).alloc (.cells B 166)).drew.heap[wr.heap.size + 1]? = some (.cells A 166 (0, 0)) ∧ ((Wt.alloc (.cells A 166)).alloc (.cells B 166)).drew.heap[wr.heap.size + 1 + 1]? = some (.cells B 166 (0, 0)) ∧ Below Wt.heap.size Wt ((Wt.alloc (.cells A 166)).alloc (.cells B 166)).drew) := fun A B => by
            have h1 := heap_alloc_new Wt (.cells A 166)
            have h2 := heap_alloc_new (Wt.alloc (.cells A 166)) (.cells B 166)
            rw [World.size_alloc, hst] at h2
            rw [hst] at h1
            exact ⟨(Below.heap_alloc _ _ _ (by rw [World.size_alloc, hst]; omega)).trans h1, h2, b_drew (b_alloc (b_alloc (Below.refl _ _) _) _)⟩
          clear hBt nt hTE e0 e1 e2 hx pK pJ p1 p5
          go_upto_region 15 with fail
          rw [← hWt]
          clear hWt
          go_cut [12, 13] (fun s12 s13 wx => ∃ p q, s12 = .pointer (some ⟨p, 0, none⟩) ∧ s13 = .pointer (some ⟨q, 0, none⟩) ∧ wx.heap[p]? = some (.cells #[.string bd, .int .i64 fr, .bool false] 166 (0, 0)) ∧ wx.heap[q]? = some (.cells #[.string bd, .int .i64 tt, .bool true] 166 (0, 0)) ∧ Below Wt.heap.size Wt wx)
          case first =>
            first | (go_region_held3 (fun w' => w'.cell? ⟨wr.heap.size, 0, none⟩ = some (.string bd) ∧ w'.cell? ⟨wr.heap.size, 1, none⟩ = some (.int .i64 fr) ∧ w'.cell? ⟨wr.heap.size, 2, none⟩ = some (.int .i64 tt)) (go_keep) (fail)) | fail
            all_goals
              go_wp2
              go_meet
              first | exact ⟨_, _, rfl, rfl, (HA.out _ _).1, (HA.out _ _).2.1, (HA.out _ _).2.2⟩ | exact ⟨_, _, rfl, rfl, (HA.out _ _).2.1, (HA.out _ _).1, (HA.out _ _).2.2⟩
          case rest =>
          obtain ⟨p, q, rfl, rfl, np, nq, hBc⟩ := hcut
          have hTEc := HTE.out.on (on1K HWt.out.1 hBc (Nat.le_refl _))
          obtain ⟨_, _, p5, _, _, _⟩ := HB7.out wc hTEc.2.1
          have nt := (hBc.block _ (Array.getElem?_eq_some_iff.1 HWt.out.2).1).trans HWt.out.2
          obtain ⟨a1, n1, k1, a2, n2, k2, w1, w2, w3, q1, r1, r2, r3, r4, r5⟩ := te_app hTEc (by omega) (x := (bd, fr, false)) z1 z2 tt
          obtain ⟨_, _, u5, _, _, _⟩ := HB7.out w3 r4.2.1
          have nt3 := (r5 54 (by decide)).2 _ _ nt
          have nq3 := (r5 166 (by decide)).2 _ _ nq
          obtain ⟨a3, n3, k3, a4, n4, k4, w4, w5, w6, q2, s1, s2, s3, s4, s5⟩ := te_app r4 (by omega) (x := (bd, tt, true)) z1 z3 fr
          have HF : Hid (TEn W7 (w.heap.size + 1 + 1 + 1 + 1) ((k + 1) * 2) (tabE (T.take (k + 1))) w6) := by
            show TEn _ _ _ _ _
            rw [HT.out]
            exact s4.le (by omega)
          have HR2 := Lib.hid r2
          have HS2 := Lib.hid s2
          have c0 : wc.cell? ⟨w.heap.size + 1 + 1 + 1 + 1 + 1, 2, none⟩ = some (.map (some (w.heap.size + 1 + 1 + 1 + 1))) := cell_at p5 rfl
          have c1 : wc.cell? ⟨p, 0, none⟩ = some (.string bd) := cell_at np rfl
          have c2 : wc.cell? ⟨p, 1, none⟩ = some (.int .i64 fr) := cell_at np rfl
          have c3 : wc.cell? ⟨p, 2, none⟩ = some (.bool false) := cell_at np rfl
          have c4 : wc.cell? ⟨wr.heap.size, 2, none⟩ = some (.int .i64 tt) := cell_at nt rfl
          have g0 : w3.cell? ⟨w.heap.size + 1 + 1 + 1 + 1 + 1, 2, none⟩ = some (.map (some (w.heap.size + 1 + 1 + 1 + 1))) := cell_at u5 rfl
          have g1 : w3.cell? ⟨q, 0, none⟩ = some (.string bd) := cell_at nq3 rfl
          have g2 : w3.cell? ⟨q, 1, none⟩ = some (.int .i64 tt) := cell_at nq3 rfl
          have g3 : w3.cell? ⟨q, 2, none⟩ = some (.bool true) := cell_at nq3 rfl
          have g4 : w3.cell? ⟨wr.heap.size, 1, none⟩ = some (.int .i64 fr) := cell_at nt3 rfl
          simp only at r1 s1
          clear r2 s2 r4 r5 s4 s5 np nq nt nt3 nq3 p5 u5 hTEc hBc HTE HT d0 d1 d2 t0 t1 t2
          go_wp2_with (first | (at_builtin; refine wpList_append_E rfl _ _ 42 rfl _ _ rfl rfl (R := fun v' w' => v' = .slice a2 n2 k2 ∧ w' = w2) ⟨_, _, HR2.out _, rfl, rfl⟩ ?_; rintro v1 w1' ⟨rfl, rfl⟩) | (at_builtin; refine wpList_append_E rfl _ _ 42 rfl _ _ rfl rfl (R := fun v' w' => v' = .slice a4 n4 k4 ∧ w' = w5) ⟨_, _, HS2.out _, rfl, rfl⟩ ?_; rintro v1 w1' ⟨rfl, rfl⟩))
          refine ⟨?_, ?_⟩
          · first | exact ⟨k + 1, by omega, by go_num, HF.out⟩ | ((repeat apply Exists.intro); refine ⟨?_, rfl⟩; exact ⟨k + 1, by omega, by go_num, HF.out⟩)
          · simp [intOf]
            try omega
        · obtain rfl : k = T.length := by omega
          rw [List.take_length] at hTE
          have c0 : wr.cell? ⟨w.heap.size + 1 + 1 + 1 + 1 + 1, 0, none⟩ = some (.map (some (w.heap.size + 1 + 1))) := cell_at p5 rfl
          have c1 : wr.cell? ⟨w.heap.size + 1 + 1 + 1 + 1 + 1, 1, none⟩ = some (.map (some (w.heap.size + 1 + 1 + 1))) := cell_at p5 rfl
          have c2 : wr.cell? ⟨w.heap.size + 1 + 1 + 1 + 1 + 1, 2, none⟩ = some (.map (some (w.heap.size + 1 + 1 + 1 + 1))) := cell_at p5 rfl
          have d0 : wr.cell? ⟨w.heap.size + 1, 0, none⟩ = some (.map none) := cell_at p1 rfl
          have d1 : wr.cell? ⟨w.heap.size + 1, 1, none⟩ = some (.map none) := cell_at p1 rfl
          have d2 : wr.cell? ⟨w.heap.size + 1, 2, none⟩ = some (.map none) := cell_at p1 rfl
          have f0 : wr.frozen? ⟨w.heap.size + 1, 0, none⟩ = false := frz_at p1
          have f1 : wr.frozen? ⟨w.heap.size + 1, 1, none⟩ = false := frz_at p1
          have f2 : wr.frozen? ⟨w.heap.size + 1, 2, none⟩ = false := frz_at p1
          have u2 := heap_setCell_same _ _ 2 _ 102 (.map (some (w.heap.size + 1 + 1 + 1 + 1))) (heap_setCell_same _ _ 1 _ 102 (.map (some (w.heap.size + 1 + 1 + 1))) (heap_setCell_same wr _ 0 _ 102 (.map (some (w.heap.size + 1 + 1))) p1))
          have HU := Lib.hid u2
          have HP := Lib.hid (And.intro hbw (And.intro pK (And.intro pJ (And.intro hTE.1 p1))))
          clear u2 hbw pK pJ hTE p1 p5
          go_wp2
          have v0 := cell_at (i := 0) HU.out rfl
          have v1 := cell_at (i := 1) HU.out rfl
          have v2 := cell_at (i := 2) HU.out rfl
          obtain ⟨z1, z2, z3, z4, z5⟩ := HP.out
          have hty : Ty wr (w.heap.size + 1) 102 := ⟨_, z5⟩
          have hk3 := (Kt.refl 3 wr).ty3 hty (by decide) 0 1 2 (.map (some (w.heap.size + 1 + 1))) (.map (some (w.heap.size + 1 + 1 + 1))) (.map (some (w.heap.size + 1 + 1 + 1 + 1)))
          refine bodyPost_ret (v := .agg #[.map (some (w.heap.size + 1 + 1)), .map (some (w.heap.size + 1 + 1 + 1)), .map (some (w.heap.size + 1 + 1 + 1 + 1))]) ?_ rfl ⟨_, _, _, rfl, ⟨by omega, by omega, by omega⟩, ?_, ?_, ?_, ?_⟩
          · simp [results, Tryz.results47, go_sem, v0, v1, v2]
          · exact z2.on (set3_heap _ _ _ _ _ _ _ _ (by omega)) hk3
          · exact OwnM.of_block z3 (set3_heap _ _ _ _ _ _ _ _ (by omega))
          · obtain ⟨F, q1, q2, q3⟩ := z4.on (set3_heap wr (w.heap.size + 1) 0 1 2 (.map (some (w.heap.size + 1 + 1))) (.map (some (w.heap.size + 1 + 1 + 1))) (.map (some (w.heap.size + 1 + 1 + 1 + 1))) (by omega)) hk3
            refine ⟨F, q1, fun x => ?_, q3⟩
            rcases q2 x with e | ⟨v, L, e1, e2, e3⟩
            · exact .inl e
            · exact .inr ⟨v, L, e1, e2, own_base e3 (by omega)⟩
          · exact below_set3 z1 (by omega) _ _ _ _ _ _
end Go.Proofs.YtifhigajonafdaaGreat
