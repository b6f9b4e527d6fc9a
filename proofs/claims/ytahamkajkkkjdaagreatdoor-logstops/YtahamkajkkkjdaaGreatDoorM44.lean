import Derived.Test.YtahamkajkkkjdaaGreatDoorM43
namespace Go.Proofs.YtahamkajkkkjdaaGreatDoor
open Go.RowKit
set_option linter.unusedVariables false
set_option linter.unusedSimpArgs false
theorem info46s : (Tryz.prog.info? 40).map (fun i => i.size) = some 3 := by kernel_rfl
section
variable {w1 w : World} {p : Nat} {c : Ch} {K : List Nm} {L : List Kd} {B : List Bd} {N : List Nd} {T : List Te} {M : List Nd} {k : Nat} {uk ub ks fn vn vt vm : Value}
def StP (w1 w : World) (p : Nat) (c : Ch) (K : List Nm) (L : List Kd) (B : List Bd) (N : List Nd) (T : List Te) (M : List Nd) (k : Nat) (uk ub ks fn vn vt vm : Value) (n : Int) (e : Ending) (w' : World) : Prop :=
  ∃ j M', e = .returned (.tuple #[.int .i64 j, errV (stE c K N k n)]) ∧ Mv w1 w' p c K L B N T M' (if stE c K N k n = 0 then stK N k n else k) uk ub ks fn vn vt vm ∧ Below w1.heap.size w w' ∧ (∀ x ∈ M', x.rc.length ≤ 1000) ∧ ∀ t : TypeId, (40 : TypeId) ≠ t → (226 : TypeId) ≠ t → Kt t w w'
set_option maxHeartbeats 1000000 in
theorem step_range (h : Mv w1 w p c K L B N T M k uk ub ks fn vn vt vm) (hrl : ∀ x ∈ M, x.rc.length ≤ 1000) {n : Int} (hn : n < 1 ∨ 60 < n) :
    Calls Tryz.prog 104 #[.pointer (some ⟨p, 0, none⟩), .int .i64 n] w (StP w1 w p c K L B N T M k uk ub ks fn vn vt vm n) := by
  have e1 : stE c K N k n = 1 := by unfold stE; rw [if_pos hn]
  have HP : Hid (StP w1 w p c K L B N T M k uk ub ks fn vn vt vm n (.returned (.tuple #[.int .i64 0, .iface 76 (.int .i64 1)])) w) := ⟨0, M, by rw [e1]; rfl, by rw [e1]; exact h, (Below.refl _ _).mono h.hB.size, hrl, fun t _ _ => Kt.refl _ _⟩
  clear h e1
  by_cases h1 : n < 1
  · clear hn
    go_enter Tryz.func104, Tryz.ntmps104
    go_wp2
    go_ret2
    exact HP.out
  · have h2 : 60 < n := by omega
    clear hn
    go_enter Tryz.func104, Tryz.ntmps104
    go_wp2
    go_ret2
    exact HP.out
set_option maxHeartbeats 1000000 in
theorem step_none (h : Mv w1 w p c K L B N T M k uk ub ks fn vn vt vm) (hl : N.length ≤ 60) (hrl : ∀ x ∈ M, x.rc.length ≤ 1000) {n : Int} (h1 : ¬ n < 1) (h2 : ¬ 60 < n) (hk : k = N.length) :
    Calls Tryz.prog 104 #[.pointer (some ⟨p, 0, none⟩), .int .i64 n] w (StP w1 w p c K L B N T M k uk ub ks fn vn vt vm n) := by
  have e1 : stE c K N k n = 6 := by unfold stE; rw [if_neg (by omega), if_pos hk]
  have cl := left_any h (by omega)
  rw [show (N.length : Int) - k = 0 by omega] at cl
  have HP : Hid (∀ W, Below w.heap.size w W → StP w1 w p c K L B N T M k uk ub ks fn vn vt vm n (.returned (.tuple #[.int .i64 0, .iface 76 (.int .i64 6)])) W) := fun W hB => ⟨0, M, by rw [e1]; rfl, by rw [e1]; exact h.on hB, hB.mono h.hB.size, hrl, fun t _ _ => Kt.of_below hB⟩
  clear h e1 hk
  go_enter Tryz.func104, Tryz.ntmps104
  go_wp2_with (go_at_call 103; refine cl.mono ?_; rintro e W1 ⟨rfl, hB1⟩)
  go_ret2
  exact HP.out _ hB1
theorem IsN.part {v : Value} {g cap m k : Nat} {M : List Nd} {w : World} (h : w.ownsRow 0 40 3 (.slice (some ⟨g, 0, none⟩) M.length cap) M.length (cellsN M)) (hR : ∀ n ∈ M, IsR w n.rv n.rc) (hkm : k + m ≤ M.length) : IsN w (.slice (some ⟨g, k * 3, none⟩) m (cap - k)) ((M.drop k).take m) := by
  have hcap : M.length ≤ cap := by
    rcases h.2 with ⟨e, _⟩ | ⟨g', cap', cur, e, _, _, h1, _⟩
    · cases e
    · injection e with _ _ e3; subst e3; exact h1
  have hl : ((M.drop k).take m).length = m := by simp; omega
  refine ⟨_, _, by rw [hl], by rw [hl]; omega, .inr ⟨g, k * 3, rfl, (h.lt g rfl).2, fun i n hi => ?_⟩⟩
  have hi' : M[k + i]? = some n := by
    rw [List.getElem?_take] at hi
    split at hi
    · rwa [List.getElem?_drop] at hi
    · cases hi
  have ce : ∀ j u, j < 3 → n.cells[j]? = some u → w.cell? ⟨g, k * 3 + (i * 3 + j), none⟩ = some u := fun j u hj hu => by
    have := World.ownsRow.cells h rfl ((k + i) * 3 + j) u ((flatK nd_len M (k + i) n j hi' hj).trans hu)
    rw [Addr.add_lit, Nat.zero_add] at this
    rwa [show k * 3 + (i * 3 + j) = (k + i) * 3 + j by omega]
  refine ⟨ce 0 _ (by omega) rfl, ?_, ?_, hR n (List.mem_of_getElem? hi')⟩
  · exact (show k * 3 + i * 3 + 1 = k * 3 + (i * 3 + 1) by omega) ▸ ce 1 _ (by omega) rfl
  · exact (show k * 3 + i * 3 + 2 = k * 3 + (i * 3 + 2) by omega) ▸ ce 2 _ (by omega) rfl
theorem part_same {M N : List Nd} {k m : Nat} (hl : M.length = N.length) (h : ∀ i n, k ≤ i → M[i]? = some n → N[i]? = some n) : (M.drop k).take m = (N.drop k).take m := by
  have e : M.drop k = N.drop k := by
    apply List.ext_getElem?
    intro i
    rw [List.getElem?_drop, List.getElem?_drop]
    rcases hM : M[k + i]? with _ | x
    · rw [List.getElem?_eq_none_iff] at hM
      rw [List.getElem?_eq_none (by omega)]
    · exact (h (k + i) x (by omega) hM).symm
  rw [e]
end
section
variable {w1 w : World} {p : Nat} {c : Ch} {K : List Nm} {L : List Kd} {B : List Bd} {N : List Nd} {T : List Te} {M : List Nd} {k : Nat} {uk ub ks fn vn vt vm : Value}
set_option maxHeartbeats 4000000 in
set_option maxRecDepth 100000 in
theorem step_go (h : Mv w1 w p c K L B N T M k uk ub ks fn vn vt vm) (hl : N.length ≤ 60) (hrl : ∀ x ∈ M, x.rc.length ≤ 1000) (hr : ∀ x ∈ N, rErr x.rc = 0) (hKl : K.length ≤ 1000) (hf : Fit c K) (hsz : Sz [c.pr]) (hyl : ∀ x ∈ N, (ndY c K x).length ≤ 1000) {n : Int} (h1 : ¬ n < 1) (h2 : ¬ 60 < n) (hk : ¬ k = N.length) :
    Calls Tryz.prog 104 #[.pointer (some ⟨p, 0, none⟩), .int .i64 n] w (StP w1 w p c K L B N T M k uk ub ks fn vn vt vm n) := by
  obtain ⟨m, hm⟩ : ∃ m : Nat, m = min n.toNat (N.length - k) := ⟨_, rfl⟩
  have hkN : k < N.length := by have := h.hk; omega
  have hm1 : 1 ≤ m := by omega
  have hkm : k + m ≤ N.length := by omega
  have hmin : min n ((N.length : Int) - k) = (m : Int) := by omega
  have hpt : (N.drop k).take n.toNat = (N.drop k).take m := by
    rw [hm]
    by_cases hc : n.toNat ≤ N.length - k
    · rw [Nat.min_eq_left hc]
    · rw [Nat.min_eq_right (by omega), List.take_of_length_le (by simp; omega), List.take_of_length_le (by simp)]
  have eE : stE c K N k n = allX c K ((N.drop k).take m) := by unfold stE; rw [if_neg (by omega), if_neg hk, hpt]
  have eK : stK N k n = k + m := by unfold stK; rw [← hm]
  obtain ⟨⟨u1, u2, u3, rfl⟩, ⟨b1, b2, b3, rfl⟩, ⟨k1, k2, k3, rfl⟩, ⟨n1, n2, n3, rfl⟩, ⟨t1, t2, t3, rfl⟩, ⟨a, cap, rfl⟩, hf1⟩ := h.sl
  obtain ⟨g, rfl, hcap⟩ : ∃ g, a = some ⟨g, 0, none⟩ ∧ N.length ≤ cap := by
    rcases h.hnow.2 with ⟨e, h0⟩ | ⟨g, cap', cur, e, _, _, h3, _⟩
    · omega
    · injection e with e1 _ e3; subst e3; exact ⟨g, e1, h3⟩
  have cl := left_any h (by omega)
  have HL : Hid (∀ W, Below w.heap.size w W → Calls Tryz.prog 103 #[.pointer (some ⟨p, 0, none⟩)] W fun e w' => e = .returned (.int .i64 ((N.length : Int) - k)) ∧ Below W.heap.size W w') := fun W hB => left_any (h.on hB) (by omega)
  have HC : Hid (∀ W, Below w.heap.size w W → (W.cell? ⟨p, 0, none⟩ = some (.slice u1 u2 u3) ∧ W.cell? ⟨p, 1, none⟩ = some (.slice b1 b2 b3) ∧ W.cell? ⟨p, 2, none⟩ = some (.slice k1 k2 k3) ∧ W.cell? ⟨p, 3, none⟩ = some fn ∧ W.cell? ⟨p, 4, none⟩ = some (.string (drp c))) ∧ W.cell? ⟨p, 7, none⟩ = some (.slice (some ⟨g, 0, none⟩) N.length cap) ∧ W.cell? ⟨p, 8, none⟩ = some (.int .i64 k)) := fun W hB => by
    have x := (h.on hB).hp
    exact ⟨⟨cell_at x rfl, cell_at x rfl, cell_at x rfl, cell_at x rfl, cell_at x rfl⟩, cell_at x rfl, cell_at x rfl⟩
  have HNd : Hid (∀ W, Below w.heap.size w W → Calls Tryz.prog 136 #[.agg #[.slice u1 u2 u3, .slice b1 b2 b3, .slice k1 k2 k3, fn, .string (drp c)], .slice (some ⟨g, k * 3, none⟩) m (cap - k)] W (NsP W c K ((N.drop k).take m))) := fun W hB => by
    have h9 := h.on hB
    have hI := IsN.part (v := .nilIface) (k := k) (m := m) (own_base (by have := h9.hnow; rw [← h.hlen] at this; exact this) (Nat.zero_le _)) h9.isR (by rw [h.hlen]; exact hkm)
    rw [part_same h.hlen h.hold] at hI
    refine wnodes_any c (drp c) hI (by simp; omega) (h.hks.on h9.hB) hKl (h.hT.on h9.hB) (fun x hx => hr x (List.mem_of_mem_drop (List.mem_of_mem_take hx))) ⟨_, _, _, rfl⟩ ⟨_, _, _, rfl⟩ hf hsz
  have HM := Lib.hid (And.intro h (And.intro hrl (And.intro hyl (And.intro hkm (And.intro eE eK)))))
  have hkl : (k : Int) < (N.length : Int) := by omega
  have hz0 : ((N.length : Int) - k == 0) = false := by simp; omega
  have hwr : IntKind.i64.wrap ((k : Int) + m) = (k : Int) + m := by rw [IntKind.wrap_i64]; omega
  have hs1 : (k : Int) + m ≤ (cap : Int) := by omega
  have hs2 : (k : Int) ≤ (k : Int) + m := by omega
  have hne : ¬ cap = k := by omega
  clear h hrl hr hKl hf hsz hyl hpt eE eK hm
  go_enter Tryz.func104, Tryz.ntmps104
  go_upto_region 5 with (go_at_call 103; refine cl.mono ?_; rintro e W1 ⟨rfl, hB1⟩)
  have cl2 := HL.out W1 hB1
  clear cl
  go_upto_region 6 with (go_at_call 103; refine cl2.mono ?_; rintro e W2 ⟨rfl, hB2⟩)
  have hB02 := on1K hB1 hB2 (Nat.le_refl _)
  obtain ⟨⟨c0, c1, c2, c3, c4⟩, c7, c8⟩ := HC.out W2 hB02
  go_quiet (fail)
  rw [Nat.add_sub_cancel_left]
  have hB03 : Below w.heap.size w (W2.drewN nq) := b_drewK hB02 _
  generalize W2.drewN nq = W3 at *
  clear c0 c1 c2 c3 c4 c7 c8 hB1 hB2 hB02 cl2
  obtain ⟨⟨c0, c1, c2, c3, c4⟩, c7, c8⟩ := HC.out W3 hB03
  have cN1 := HNd.out W3 hB03
  unfold NsP at cN1
  by_cases hz : allX c K ((N.drop k).take m) = 0
  · have HS : Hid (∀ W4 (e : Ending), (∃ u X, e = .returned (.tuple #[u, .nilIface]) ∧ cN X = ((N.drop k).take m).map (ndT c K) ∧ OwnNs W4 W3.heap.size u X) → Below W3.heap.size W3 W4 → ∃ g2 cap2 X, e = .returned (.tuple #[.slice (some ⟨g2, 0, none⟩) m cap2, .nilIface]) ∧ ∃ cur : Array Value, (∀ ty, (Builtin.copy_ #[64, 64] ty #[.slice (some ⟨g, k * 3, none⟩) m (cap - k), .slice (some ⟨g2, 0, none⟩) m cap2]).run Tryz.prog W4 = .ok (goInt (m : Int)) (W4.setRow g (lay cur.toList (k * 3) (cellsN X)).toArray)) ∧ ∀ W5, W5 = W4.setRow g (lay cur.toList (k * 3) (cellsN X)).toArray → (W5.cell? ⟨p, 8, none⟩ = some (.int .i64 k) ∧ W5.frozen? ⟨p, 8, none⟩ = false) ∧ ∀ W6, W6 = W5.setCell ⟨p, 8, none⟩ (.int .i64 ((k : Int) + m)) → StP w1 w p c K L B N T M k (.slice u1 u2 u3) (.slice b1 b2 b3) (.slice k1 k2 k3) fn (.slice n1 n2 n3) (.slice t1 t2 t3) (.slice (some ⟨g, 0, none⟩) N.length cap) n (.returned (.tuple #[.int .i64 m, .nilIface])) W6) := by
      rintro W4 e ⟨u, X, he, hX, hO⟩ hB4
      obtain ⟨hMv, hrl, hyl, hkm, eE, eK⟩ := HM.out
      have hB04 := on1K hB03 hB4 (Nat.le_refl _)
      obtain ⟨cur, hg, hfit, hXl, hW⟩ := mv_copy hMv hB04 rfl hX hkm (fun x hx => own_base (hO.2 x hx) hB03.size) hz
      obtain ⟨g2, cap2, hu⟩ : ∃ g2 cap2, u = .slice (some ⟨g2, 0, none⟩) m cap2 := by
        rcases hO.1.2 with ⟨_, h0⟩ | ⟨g2, cap2, _, e2, _⟩
        · omega
        · exact ⟨g2, cap2, by rw [e2, hXl]⟩
      subst hu
      have hXc : (cellsN X).length = m * 3 := by rw [← hXl]; exact flatK_len nd_len X
      refine ⟨g2, cap2, X, he, cur, fun ty => ?_, fun W5 hW5 => ?_⟩
      · exact run_copy_rowN W4 64 64 ty 40 3 g (k * 3) m (cap - k) ⟨g2, 0, none⟩ m cap2 cur 40 (cellsN X) m Tryz.underlying64 info46s hg (Nat.min_self m) hXc (fun j v hv => World.ownsRow.cells hO.1 rfl j v hv) hfit (nd_one hO.sl)
      · obtain ⟨q1, q2⟩ := hW W5 hW5
        refine ⟨q1, fun W6 hW6 => ?_⟩
        obtain ⟨q3, q4, q5⟩ := q2 W6 hW6
        refine ⟨m, _, by rw [eE, hz]; rfl, by rw [eE, hz, if_pos rfl, eK]; exact q3, q4, fun x hx => ?_, q5⟩
        rcases List.mem_append.1 hx with hx | hx
        · rcases List.mem_append.1 hx with hx | hx
          · exact hrl x (List.mem_of_mem_take hx)
          · obtain ⟨i, hi⟩ := List.getElem?_of_mem hx
            have h9 : (cN X)[i]? = some x.c := by unfold cN; rw [List.getElem?_map, hi]; rfl
            rw [hX, List.getElem?_map] at h9
            obtain ⟨y, hy, e9⟩ := Option.map_eq_some_iff.1 h9
            have : x.rc = ndY c K y := by have := congrArg Nd.rc e9; exact this.symm
            rw [this]
            exact hyl y (List.mem_of_mem_drop (List.mem_of_mem_take (List.mem_of_getElem? hy)))
        · exact hrl x (List.mem_of_mem_drop hx)
    rw [hz] at cN1
    clear HM HL HC HNd hB03 hz
    go_upto_region 10 with (go_at_call 136; refine cN1.mono ?_; rintro e W4 ⟨hy, _, hB4⟩; obtain ⟨g2, cap2, X, rfl, cur, hcp, hW⟩ := HS.out W4 e (hy (by simp)) hB4; clear hy hB4)
    obtain ⟨W5, hW5⟩ : ∃ W5, W5 = W4.setRow g (lay cur.toList (k * 3) (cellsN X)).toArray := ⟨_, rfl⟩
    obtain ⟨⟨q1, q2⟩, q3⟩ := hW W5 hW5
    rw [← hW5] at hcp
    have HE := Lib.hid q3
    clear hW q3 hW5 cN1 HS c0 c1 c2 c3 c4 c7 c8
    go_wp2_with (at_builtin; refine wpList_copy_runN _ rfl (.tmp 51) (.tmp 52) 64 64 rfl _ _ rfl rfl (hcp _) ?_)
    go_ret2
    exact HE.out _ rfl
  · have HQ : Hid (∀ W4 (e : Ending), (¬ allX c K ((N.drop k).take m) = 0 → e = .returned (.tuple #[.slice none 0 0, errV (allX c K ((N.drop k).take m))])) → Below W3.heap.size W3 W4 → e = .returned (.tuple #[.slice none 0 0, .iface 76 (.int .i64 (allX c K ((N.drop k).take m)))]) ∧ StP w1 w p c K L B N T M k (.slice u1 u2 u3) (.slice b1 b2 b3) (.slice k1 k2 k3) fn (.slice n1 n2 n3) (.slice t1 t2 t3) (.slice (some ⟨g, 0, none⟩) N.length cap) n (.returned (.tuple #[.int .i64 0, .iface 76 (.int .i64 (allX c K ((N.drop k).take m)))])) W4) := fun W4 e he hB4 => by
      obtain ⟨hMv, hrl, hyl, hkm, eE, eK⟩ := HM.out
      have hB04 := on1K hB03 hB4 (Nat.le_refl _)
      refine ⟨by rw [he hz, errV_ne hz], 0, M, by rw [eE, errV_ne hz], by rw [eE, if_neg hz]; exact hMv.on hB04, hB04.mono hMv.hB.size, hrl, fun t _ _ => Kt.of_below hB04⟩
    generalize allX c K ((N.drop k).take m) = z at *
    clear HM HL HC HNd hB03 hz
    go_wp2_with (go_at_call 136; refine cN1.mono ?_; rintro e W4 ⟨_, hy, hB4⟩; obtain ⟨rfl, hW⟩ := HQ.out W4 e hy hB4; clear hy hB4)
    go_ret2
    exact hW
end
end Go.Proofs.YtahamkajkkkjdaaGreatDoor
