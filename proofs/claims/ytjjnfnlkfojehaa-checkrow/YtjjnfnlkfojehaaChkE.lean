/-
  The walk of shape.bondFaults.
-/
import Derived.Test.YtjjnfnlkfojehaaChkC
namespace Go.Proofs.Ytjjnfnlkfojehaa
open Go.RowKit
set_option linter.unusedVariables false
set_option linter.unusedSimpArgs false

theorem bondS_len (id : Int) (O : Ou) (l : List Ft) (x : Bd) : (bondS id O l x).length ≤ l.length + 1 := by
  unfold bondS; split
  · simp
  · split <;> simp
theorem bondF_len (bn : List Bd) (id : Int) (O : Ou) : (bondF bn id O).length ≤ bn.length := by
  have := fold_len (bondS id O) (bondS_len id O) bn []
  simpa [bondF] using this
theorem bondS_few {id : Int} {O : Ou} {l : List Ft} {x : Bd} (h : cnt O id x < x.mn) : bondS id O l x = l ++ [⟨7, id, bs x.nm⟩] := by unfold bondS; rw [if_pos h]
theorem bondS_many {id : Int} {O : Ou} {l : List Ft} {x : Bd} (h : ¬ cnt O id x < x.mn) (h1 : 0 ≤ x.mx) (h2 : x.mx < cnt O id x) : bondS id O l x = l ++ [⟨8, id, bs x.nm⟩] := by unfold bondS; rw [if_neg h, if_pos (by simp [h1, h2])]
theorem bondS_ok {id : Int} {O : Ou} {l : List Ft} {x : Bd} (h : ¬ cnt O id x < x.mn) (h1 : ¬ (0 ≤ x.mx ∧ x.mx < cnt O id x)) : bondS id O l x = l := by unfold bondS; rw [if_neg h, if_neg (by simpa using h1)]
theorem size2 (w : World) (a b : Obj) : w.heap.size ≤ ((w.alloc a).alloc b).heap.size := by simp; omega
theorem new_at1 (w : World) (o1 : Obj) (f : Ft) : ∀ j u, f.cells[j]? = some u → ((w.alloc o1).alloc (.cells #[.int .i64 f.wh, .int .i64 f.id, .string f.nm] 40)).cell? ((⟨w.heap.size + 1, 0, none⟩ : Addr).add j) = some u := by
  have := new_at (w.alloc o1) f.cells 40
  simp only [World.size_alloc] at this
  exact this
theorem IsB.at {w : World} {v : Value} {L : List Bd} (h : IsB w v L) {k : Nat} {x : Bd} (hx : L[k]? = some x) : ∃ b off c, v = .slice (some ⟨b, off, none⟩) L.length c ∧ b < w.heap.size ∧ w.cell? ⟨b, off + k * 5, none⟩ = some (.string (bs x.nm)) ∧ w.cell? ⟨b, off + k * 5 + 1, none⟩ = some (.string (bs x.fr)) ∧ w.cell? ⟨b, off + k * 5 + 2, none⟩ = some (.string (bs x.tt)) ∧ w.cell? ⟨b, off + k * 5 + 3, none⟩ = some (.int .i64 x.mn) ∧ w.cell? ⟨b, off + k * 5 + 4, none⟩ = some (.int .i64 x.mx) := by
  rcases h with ⟨rfl, rfl⟩ | ⟨b, off, cap, rfl, hcap, hm, hb, hl⟩
  · simp at hx
  · exact ⟨b, off, cap, rfl, hb, hl k x hx⟩
set_option maxHeartbeats 8000000 in
set_option maxRecDepth 100000 in
theorem bondFaults_any {v : Value} {h : Sh} {n : Nd} {w : World} {bo : Nat} {O : Ou} (hs : IsSh w v h) (hb12 : h.bn.length ≤ 12) (hbz : ∀ x ∈ h.bn, x.nm.length ≤ maxLen) (hr : IsR w n.rv n.rc) (hid : in64 n.id) (hm : MapIn w 83 encE bo O) :
    Calls Try.prog 20 #[v, n.one, .map (some bo)] w (XPost w (bondF h.bn n.id O)) := by
  obtain ⟨i0, hi0, hz0, hz1, hz2⟩ := info_parts infoX
  obtain ⟨vk, vf, vb, rfl, h1, h2, h3⟩ := hs
  have HB : Hid (IsB w vb h.bn) := h3
  obtain ⟨a1, c1, rfl, _⟩ := h1.sln
  obtain ⟨a2, c2, rfl, _⟩ := h2.sln
  obtain ⟨a3, c3, rfl, _⟩ := h3.sln
  obtain ⟨id, kd, rv, rc⟩ := n
  simp only at hr hid ⊢
  have HM : Hid (MapIn w 83 encE bo O ∧ in64 id) := ⟨hm, hid⟩
  obtain ⟨av, cv, rfl, _⟩ := hr
  have HBz : Hid (∀ x ∈ h.bn, x.nm.length ≤ maxLen) := hbz
  obtain ⟨bn, hbn⟩ : ∃ bn, bn = h.bn := ⟨_, rfl⟩
  rw [← hbn] at HB hb12 HBz ⊢
  generalize h.kn.length = lk
  generalize h.fs.length = lf
  generalize rc.length = lr
  clear hbn h1 h2 h3 hm hid hbz
  have HB0 : Hid (Below w.heap.size w (box2 w #[.slice a1 lk c1, .slice a2 lf c2, .slice a3 bn.length c3] 76 #[.int .i64 id, .string kd, .slice av lr cv] 33)) := box2_below _ _ _ _ _
  have HC : Hid ((box2 w #[.slice a1 lk c1, .slice a2 lf c2, .slice a3 bn.length c3] 76 #[.int .i64 id, .string kd, .slice av lr cv] 33).cell? ⟨w.heap.size + 1, 0, none⟩ = some (.int .i64 id)) := box2_b _ _ _ _ _ rfl
  go_enter Try.func20, Try.ntmps20
  go_wp2
  go_loopw [6, 13] (fun u i wr => ∃ k : Nat, k ≤ bn.length ∧ i = .int .i64 k ∧ OwnX wr (w.heap.size + 2) u ((bn.take k).foldl (bondS id O) []) ∧ Below (w.heap.size + 2) (box2 w #[.slice a1 lk c1, .slice a2 lf c2, .slice a3 bn.length c3] 76 #[.int .i64 id, .string kd, .slice av lr cv] 33) wr) (fun _ i _ => bn.length - (intOf i).toNat)
  case atStart => exact ⟨0, Nat.zero_le _, rfl, World.ownsRow_nil _ _ _ _, Below.refl _ _⟩
  case round =>
    obtain ⟨k, hk, rfl, hO, hB⟩ := hrel
    have HR : Hid (OwnX wr (w.heap.size + 2) u6 ((bn.take k).foldl (bondS id O) []) ∧ Below (w.heap.size + 2) (box2 w #[.slice a1 lk c1, .slice a2 lf c2, .slice a3 bn.length c3] 76 #[.int .i64 id, .string kd, .slice av lr cv] 33) wr) := ⟨hO, hB⟩
    have g2 : wr.cell? ⟨w.heap.size + 1, 0, none⟩ = some (.int .i64 id) := (hB.cell (by simp)).trans HC.out
    have hws : w.heap.size + 2 ≤ wr.heap.size := by have := hB.size; rw [box2_size] at this; exact this
    have HW : Hid (Below w.heap.size w wr) := HB0.out.trans (hB.mono (by omega))
    clear hO hB
    by_cases hlt : k < bn.length
    · obtain ⟨x, hx⟩ : ∃ x, bn[k]? = some x := ⟨bn[k], by simp [hlt]⟩
      obtain ⟨b, off, c, hv, hb, e0, e1, e2, e3, e4⟩ := HB.out.at hx
      injection hv with hv1 hv2 hv3
      subst hv1 hv3
      clear hv2
      have d0 := (HW.out.cell (p := ⟨b, off + k * 5, none⟩) hb).trans e0
      have d1 := (HW.out.cell (p := ⟨b, off + k * 5 + 1, none⟩) hb).trans e1
      have d2 := (HW.out.cell (p := ⟨b, off + k * 5 + 2, none⟩) hb).trans e2
      have d3 := (HW.out.cell (p := ⟨b, off + k * 5 + 3, none⟩) hb).trans e3
      have d4 := (HW.out.cell (p := ⟨b, off + k * 5 + 4, none⟩) hb).trans e4
      have HT : Hid (((bn.take (k + 1)).foldl (bondS id O) []) = bondS id O ((bn.take k).foldl (bondS id O) []) x) := foldl_take _ _ hx
      have HKey : Hid (∃ l, keyOf Try.prog 83 (encE (bs x.nm, id)) = some l) := keyE (by rw [bs_size]; exact HBz.out x (List.mem_of_getElem? hx)) HM.out.2
      have HL : Hid (((bn.take k).foldl (bondS id O) []).length ≤ 12) := by
        have := bondF_len (bn.take k) id O
        simp [bondF] at this
        show _ ≤ _
        omega
      obtain ⟨nm, fr, tt, mn, mx⟩ := x
      simp only at d0 d1 d2 d3 d4
      have HB1 : Hid (Below wr.heap.size wr (wr.alloc (.cells #[.string (bs nm), .string (bs fr), .string (bs tt), .int .i64 mn, .int .i64 mx] 72))) := b_allocK (Below.refl _ _) (Nat.le_refl _) _
      have y0 : (wr.alloc (.cells #[.string (bs nm), .string (bs fr), .string (bs tt), .int .i64 mn, .int .i64 mx] 72)).cell? ⟨wr.heap.size, 0, none⟩ = some (.string (bs nm)) := two_new _ _ _ rfl
      have y3 : (wr.alloc (.cells #[.string (bs nm), .string (bs fr), .string (bs tt), .int .i64 mn, .int .i64 mx] 72)).cell? ⟨wr.heap.size, 3, none⟩ = some (.int .i64 mn) := two_new _ _ _ rfl
      have y4 : (wr.alloc (.cells #[.string (bs nm), .string (bs fr), .string (bs tt), .int .i64 mn, .int .i64 mx] 72)).cell? ⟨wr.heap.size, 4, none⟩ = some (.int .i64 mx) := two_new _ _ _ rfl
      have z0 : (wr.alloc (.cells #[.string (bs nm), .string (bs fr), .string (bs tt), .int .i64 mn, .int .i64 mx] 72)).cell? ⟨w.heap.size + 1, 0, none⟩ = some (.int .i64 id) := (HB1.out.cell (by show w.heap.size + 1 < _; omega)).trans g2
      obtain ⟨kl, hkl⟩ := HKey.out
      have hlook := look_in (MapIn.on (MapIn.on HM.out.1 HW.out) HB1.out) keyedE encE_inj Try.underlying81 (zero3 _) hkl
      obtain ⟨z, hzz⟩ : ∃ z, z = (O (bs nm, id)).getD 0 := ⟨_, rfl⟩
      rw [← hzz] at hlook
      have HZ : Hid (cnt O id ⟨nm, fr, tt, mn, mx⟩ = z) := hzz.symm
      have HX : Hid (OwnX (wr.alloc (.cells #[.string (bs nm), .string (bs fr), .string (bs tt), .int .i64 mn, .int .i64 mx] 72)) (w.heap.size + 2) u6 ((bn.take k).foldl (bondS id O) []) ∧ ((bn.take k).foldl (bondS id O) []).length + 1 ≤ maxLen ∧ (((bn.take k).foldl (bondS id O) []).length + 1) * 32 ≤ 140737488355328 ∧ w.heap.size + 2 ≤ wr.heap.size) := ⟨own_below HR.out.1 HB1.out, by have := HL.out; unfold maxLen; omega, by have := HL.out; omega, hws⟩
      simp only [encE] at hlook
      have hbn : ¬ b = wr.heap.size := by have := HW.out.size; omega
      clear hkl hzz e0 e1 e2 e3 e4 hx
      by_cases q1 : z < mn
      · skip
        have HSt : Hid (((bn.take (k + 1)).foldl (bondS id O) []) = ((bn.take k).foldl (bondS id O) []) ++ [⟨7, id, bs nm⟩]) := by
          show _ = _
          rw [HT.out]; exact bondS_few (by rw [HZ.out]; exact q1)
        go_wp2_with (at_builtin; refine wpList_append_own _ rfl (.tmp 29) (.tmp 35) 34 rfl (w.heap.size + 2) 40 i0 _ 3 32 Try.underlying34 hi0 hz0 hz1 hz2 rfl (by decide) u6 ((bn.take k).foldl (bondS id O) []).length (cellsX ((bn.take k).foldl (bondS id O) [])) rfl (HX.out.1.alloc _) ⟨wr.heap.size + 1, 0, none⟩ 1 1 (Ft.mk 7 id (bs nm)).cells rfl rfl (new_at1 wr _ _) (ft_one _) HX.out.2.1 HX.out.2.2.1 (Nat.le_trans HX.out.2.2.2 (size2 _ _ _)) ?_; intro v1 w1 hown1 hgrow1 _)
        have HN : Hid (OwnX w1 (w.heap.size + 2) v1 ((bn.take (k + 1)).foldl (bondS id O) []) ∧ Below (w.heap.size + 2) (box2 w #[.slice a1 lk c1, .slice a2 lf c2, .slice (some ⟨b, off, none⟩) bn.length c3] 76 #[.int .i64 id, .string kd, .slice av lr cv] 33) w1) := by
          refine ⟨?_, own_more HR.out.1 HR.out.2 hws HB1.out hgrow1⟩
          rw [HSt.out]; unfold OwnX; rw [cellsX_snoc, List.length_append]; exact hown1
        clear hown1 hgrow1
        go_roundw
        case rel => exact ⟨k + 1, by omega, by go_num, HN.out.1, HN.out.2⟩
        case measure => simp [intOf]; omega
      · by_cases q2 : 0 ≤ mx
        · by_cases q3 : mx < z
          · skip
            have HSt : Hid (((bn.take (k + 1)).foldl (bondS id O) []) = ((bn.take k).foldl (bondS id O) []) ++ [⟨8, id, bs nm⟩]) := by
              show _ = _
              rw [HT.out]; exact bondS_many (by rw [HZ.out]; exact q1) q2 (by rw [HZ.out]; exact q3)
            go_wp2_with (at_builtin; refine wpList_append_own _ rfl (.tmp 47) (.tmp 53) 34 rfl (w.heap.size + 2) 40 i0 _ 3 32 Try.underlying34 hi0 hz0 hz1 hz2 rfl (by decide) u6 ((bn.take k).foldl (bondS id O) []).length (cellsX ((bn.take k).foldl (bondS id O) [])) rfl (HX.out.1.alloc _) ⟨wr.heap.size + 1, 0, none⟩ 1 1 (Ft.mk 8 id (bs nm)).cells rfl rfl (new_at1 wr _ _) (ft_one _) HX.out.2.1 HX.out.2.2.1 (Nat.le_trans HX.out.2.2.2 (size2 _ _ _)) ?_; intro v1 w1 hown1 hgrow1 _)
            have HN : Hid (OwnX w1 (w.heap.size + 2) v1 ((bn.take (k + 1)).foldl (bondS id O) []) ∧ Below (w.heap.size + 2) (box2 w #[.slice a1 lk c1, .slice a2 lf c2, .slice (some ⟨b, off, none⟩) bn.length c3] 76 #[.int .i64 id, .string kd, .slice av lr cv] 33) w1) := by
              refine ⟨?_, own_more HR.out.1 HR.out.2 hws HB1.out hgrow1⟩
              rw [HSt.out]; unfold OwnX; rw [cellsX_snoc, List.length_append]; exact hown1
            clear hown1 hgrow1
            go_roundw
            case rel => exact ⟨k + 1, by omega, by go_num, HN.out.1, HN.out.2⟩
            case measure => simp [intOf]; omega
          · skip
            have HSt : Hid (((bn.take (k + 1)).foldl (bondS id O) []) = ((bn.take k).foldl (bondS id O) [])) := by
              show _ = _
              rw [HT.out]; exact bondS_ok (by rw [HZ.out]; exact q1) (by rw [HZ.out]; exact fun h => q3 h.2)
            have HN : Hid (OwnX (wr.alloc (.cells #[.string (bs nm), .string (bs fr), .string (bs tt), .int .i64 mn, .int .i64 mx] 72)) (w.heap.size + 2) u6 ((bn.take (k + 1)).foldl (bondS id O) []) ∧ Below (w.heap.size + 2) (box2 w #[.slice a1 lk c1, .slice a2 lf c2, .slice (some ⟨b, off, none⟩) bn.length c3] 76 #[.int .i64 id, .string kd, .slice av lr cv] 33) (wr.alloc (.cells #[.string (bs nm), .string (bs fr), .string (bs tt), .int .i64 mn, .int .i64 mx] 72))) := ⟨by rw [HSt.out]; exact HX.out.1, HR.out.2.trans (HB1.out.mono hws)⟩
            go_wp2
            go_roundw
            case rel => exact ⟨k + 1, by omega, by go_num, HN.out.1, HN.out.2⟩
            case measure => simp [intOf]; omega
        · skip
          have HSt : Hid (((bn.take (k + 1)).foldl (bondS id O) []) = ((bn.take k).foldl (bondS id O) [])) := by
            show _ = _
            rw [HT.out]; exact bondS_ok (by rw [HZ.out]; exact q1) (fun h => q2 h.1)
          have HN : Hid (OwnX (wr.alloc (.cells #[.string (bs nm), .string (bs fr), .string (bs tt), .int .i64 mn, .int .i64 mx] 72)) (w.heap.size + 2) u6 ((bn.take (k + 1)).foldl (bondS id O) []) ∧ Below (w.heap.size + 2) (box2 w #[.slice a1 lk c1, .slice a2 lf c2, .slice (some ⟨b, off, none⟩) bn.length c3] 76 #[.int .i64 id, .string kd, .slice av lr cv] 33) (wr.alloc (.cells #[.string (bs nm), .string (bs fr), .string (bs tt), .int .i64 mn, .int .i64 mx] 72))) := ⟨by rw [HSt.out]; exact HX.out.1, HR.out.2.trans (HB1.out.mono hws)⟩
          go_wp2
          go_roundw
          case rel => exact ⟨k + 1, by omega, by go_num, HN.out.1, HN.out.2⟩
          case measure => simp [intOf]; omega
    · obtain rfl : k = bn.length := by omega
      have HE : Hid (XPost w (bondF bn id O) (.returned u6) wr) := ⟨u6, rfl, own_base (by have := HR.out.1; rw [List.take_length] at this; exact this) (by omega), HW.out⟩
      clear hlt
      go_wp2
      go_ret
      exact HE.out
end Go.Proofs.Ytjjnfnlkfojehaa
