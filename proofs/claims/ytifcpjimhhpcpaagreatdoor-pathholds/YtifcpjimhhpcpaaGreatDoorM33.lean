/-
  The walks of graph.In and kinsame.Ints; what the law PathHolds asks at each step of a row.
-/
import Derived.Test.YtifcpjimhhpcpaaGreatDoorM32
import Derived.Laws.AppendOwnNone
import Derived.Test.YtifcpjimhhpcpaaGreatDoorM26
namespace Go.Proofs.YtifcpjimhhpcpaaGreatDoor
open Go.RowKit
set_option linter.unusedVariables false
set_option linter.unusedSimpArgs false

/-- The beginnings of ties that come in. -/
def inns (T : List Te) (bd : ByteArray) (a : Int) : List Int := (T.filter fun t => t.hit bd && t.tt == a).map (·.fr)
theorem inns_hit {T : List Te} {k : Nat} {t : Te} (h : T[k]? = some t) {bd : ByteArray} {a : Int} (h1 : t.hit bd = true) (h2 : t.tt = a) : inns (T.take (k + 1)) bd a = inns (T.take k) bd a ++ [t.fr] := by
  rw [takeT h]; unfold inns; rw [List.filter_append, List.map_append]; simp [h1, h2]
theorem inns_miss {T : List Te} {k : Nat} {t : Te} (h : T[k]? = some t) {bd : ByteArray} {a : Int} (h1 : t.hit bd = false ∨ ¬ t.tt = a) : inns (T.take (k + 1)) bd a = inns (T.take k) bd a := by
  rw [takeT h]; unfold inns; rw [List.filter_append, List.map_append]
  rcases h1 with h1 | h1 <;> simp [h1]
theorem inns_le (T : List Te) (bd : ByteArray) (a : Int) : (inns T bd a).length ≤ T.length := by unfold inns; rw [List.length_map]; exact List.length_filter_le _ _

set_option maxHeartbeats 2000000 in
set_option maxRecDepth 100000 in
theorem in_any {vn vt : Value} {N : List Nd} {T : List Te} {w : World} (hN : IsN w vn N) (hT : IsT w vt T) (zN : SzN N) (zT : SzT T) (lN : N.length ≤ maxLen) (lT : T.length ≤ maxLen) (id : Int) (bd : ByteArray) :
    Calls Tryz.prog 9 #[.agg #[vn, vt], .int .i64 id, .string bd] w fun e w' => ∃ v, e = .returned (.tuple #[v, errV (fE N T id)]) ∧ (fE N T id = 0 → w'.ownsRow w.heap.size 3 1 v (inns T bd id).length (cellsI (inns T bd id))) ∧ (¬ fE N T id = 0 → v = .slice none 0 0) ∧ Below w.heap.size w w' := by
  obtain ⟨i0, hi0, hz0, hz1, hz2⟩ := info_parts infoI
  have hN' := hN
  obtain ⟨an, cn, rfl, hcn, hn⟩ := hN
  have hT' := hT
  obtain ⟨am, cm, rfl, hcm, hm⟩ := hT
  have hB : Below w.heap.size w (w.alloc (.cells #[.slice an N.length cn, .slice am T.length cm] 29)) := b_alloc (Below.refl _ _) _
  have cc := find_any (hN'.on hB) (hT'.on hB) zN zT lN lT id
  by_cases hf : fE N T id = 0
  · have hT0 : T.length ≤ 120 := by
      by_cases hg : gErr N T = 0
      · exact (gErr_len hg).2
      · rw [fE_bad id hg] at hf; exact absurd hf hg
    have HF : Hid (fE N T id = 0) := hf
    have HM : Hid (T = [] ∨ ∃ b off, am = some ⟨b, off, none⟩ ∧ b < w.heap.size ∧ LiesT w b off T) := hm
    rw [hf, errV_0] at cc
    have hg1 : (w.alloc (.cells #[.slice an N.length cn, .slice am T.length cm] 29)).cell? ⟨w.heap.size, 1, none⟩ = some (.slice am T.length cm) := by simp
    have HG : Hid (∀ W, Below (w.alloc (.cells #[.slice an N.length cn, .slice am T.length cm] 29)).heap.size (w.alloc (.cells #[.slice an N.length cn, .slice am T.length cm] 29)) W → W.cell? ⟨w.heap.size, 1, none⟩ = some (.slice am T.length cm)) := fun W hW => (hW.cell (by simp)).trans hg1
    clear hn hm hg1 hf hN' hT'
    go_enter Tryz.func9, Tryz.ntmps9
    go_wp2_with (first | (go_at_call 19; refine cc.mono ?_; rintro e W1 ⟨x, rfl, hB1⟩; have k0 := HG.out W1 hB1))
    have HW : Hid (Below w.heap.size w W1) := on1 hB hB1
    clear cc hB hB1 HG
    go_loopw [10, 25] (fun v i wr => OAt W1 T.length (fun k => inns (T.take k) bd id) v i wr) (fun _ i _ => T.length - (intOf i).toNat)
    case atStart => exact ⟨0, Nat.zero_le _, rfl, World.ownsRow_nil _ _ _ _, Below.refl _ _⟩
    case round =>
      obtain ⟨k, hk, rfl, ho, hB⟩ := hrel
      by_cases hlt : k < T.length
      · obtain ⟨t, ht⟩ : ∃ t, T[k]? = some t := ⟨T[k], by simp [hlt]⟩
        rcases HM.out with rfl | ⟨b, off, rfl, hb, hL⟩
        · exact absurd hlt (by simp)
        obtain ⟨c0, c1, c2⟩ := hL k t ht
        have hbw : Below w.heap.size w wr := on1 HW.out hB
        have d0 := (hbw.cell (p := ⟨b, off + k * 3, none⟩) hb).trans c0
        have d1 := (hbw.cell (p := ⟨b, off + k * 3 + 1, none⟩) hb).trans c1
        have d2 := (hbw.cell (p := ⟨b, off + k * 3 + 2, none⟩) hb).trans c2
        have hbr : b < wr.heap.size := Nat.lt_of_lt_of_le hb hbw.size
        have hbn : ¬ b = wr.heap.size := by omega
        have HP : Hid (T[k]? = some t) := ht
        clear c0 c1 c2 hL ht hbw
        obtain ⟨tb, tf, tt⟩ := t
        simp only at d0 d1 d2
        have HR : Hid (Below W1.heap.size W1 (wr.alloc (.cells #[.string tb, .int .i64 tf, .int .i64 tt] 82)) ∧ (wr.alloc (.cells #[.string tb, .int .i64 tf, .int .i64 tt] 82)).ownsRow W1.heap.size 3 1 u10 (inns (T.take k) bd id).length (cellsI (inns (T.take k) bd id))) := ⟨b_alloc hB _, ho.alloc _⟩
        by_cases hh : (tb.toList == bd.toList) = true ∧ tt = id
        · obtain ⟨h1, h2⟩ := hh
          have HE : Hid (inns (T.take (k + 1)) bd id = inns (T.take k) bd id ++ [tf]) := inns_hit HP.out h1 h2
          have h3 : (tt == id) = true := by simpa using h2
          have hle : (inns (T.take k) bd id).length ≤ k := Nat.le_trans (inns_le _ _ _) (List.length_take_le _ _)
          have HL : Hid ((inns (T.take k) bd id).length + 1 ≤ maxLen ∧ ((inns (T.take k) bd id).length + 1) * 8 ≤ 140737488355328) := by
            unfold maxLen; exact ⟨by omega, by omega⟩
          have HO : Hid (((wr.alloc (.cells #[.string tb, .int .i64 tf, .int .i64 tt] 82)).alloc (.cells #[.int .i64 tf] 3)).ownsRow W1.heap.size 3 1 u10 (inns (T.take k) bd id).length (cellsI (inns (T.take k) bd id)) ∧ Below W1.heap.size W1 ((wr.alloc (.cells #[.string tb, .int .i64 tf, .int .i64 tt] 82)).alloc (.cells #[.int .i64 tf] 3))) := ⟨HR.out.2.alloc _, b_alloc HR.out.1 _⟩
          clear hle ho hB HR h2
          go_wp2_with (at_builtin; refine wpList_append_own _ rfl (.tmp 39) (.tmp 42) 47 rfl W1.heap.size 3 i0 _ 1 8 Tryz.underlying47 hi0 hz0 hz1 hz2 rfl (by decide) u10 (inns (T.take k) bd id).length (cellsI (inns (T.take k) bd id)) rfl HO.out.1 ⟨wr.heap.size + 1, 0, none⟩ 1 1 [.int .i64 tf] (by simp [Act.eval]) rfl (by have := new_at (wr.alloc (.cells #[.string tb, .int .i64 tf, .int .i64 tt] 82)) [.int .i64 tf] 3; simpa using this) (by simp [Value.oneCell']) HL.out.1 HL.out.2 HO.out.2.size ?_; intro v1 w1 hown1 hgrow1 _; refine Hid.out ?_)
          refine Lib.hid ?_
          have HRR : Hid (OAt W1 T.length (fun k => inns (T.take k) bd id) v1 (.int .i64 ((k + 1 : Nat) : Int)) w1) := by
            refine ⟨k + 1, by omega, rfl, ?_, HO.out.2.grown hgrow1 HO.out.2.size (fun k hk => (HO.out.1.lt k hk).1)⟩
            simp only
            rw [HE.out, List.length_append, cellsI_app]
            exact hown1
          clear hown1
          go_wp2
          refine ⟨?_, ?_⟩
          · first | exact HRR.out | ((repeat apply Exists.intro); refine ⟨?_, rfl⟩; exact HRR.out)
          · simp [intOf]
            try omega
        · have HE : Hid (inns (T.take (k + 1)) bd id = inns (T.take k) bd id) := inns_miss HP.out (by
            by_cases h1 : (tb.toList == bd.toList) = true
            · exact .inr fun h2 => hh ⟨h1, h2⟩
            · exact .inl (by simpa [Te.hit] using h1))
          have HRR : Hid (OAt W1 T.length (fun k => inns (T.take k) bd id) u10 (.int .i64 ((k + 1 : Nat) : Int)) (wr.alloc (.cells #[.string tb, .int .i64 tf, .int .i64 tt] 82))) := by
            refine ⟨k + 1, by omega, rfl, ?_, HR.out.1⟩
            simp only
            rw [HE.out]
            exact HR.out.2
          clear ho hB HR HE
          by_cases h1 : (tb.toList == bd.toList) = true
          · have h3 : (tt == id) = false := by simpa using fun h2 => hh ⟨h1, h2⟩
            clear hh
            go_wp2
            refine ⟨?_, ?_⟩
            · first | exact HRR.out | ((repeat apply Exists.intro); refine ⟨?_, rfl⟩; exact HRR.out)
            · simp [intOf]
              try omega
          · have h1' : (tb.toList == bd.toList) = false := by simpa using h1
            clear hh h1
            go_wp2
            refine ⟨?_, ?_⟩
            · first | exact HRR.out | ((repeat apply Exists.intro); refine ⟨?_, rfl⟩; exact HRR.out)
            · simp [intOf]
              try omega
      · have hke : T.take k = T := List.take_of_length_le (by omega)
        simp only at ho
        rw [hke] at ho
        have HO : Hid (wr.ownsRow W1.heap.size 3 1 u10 (inns T bd id).length (cellsI (inns T bd id)) ∧ Below W1.heap.size W1 wr) := ⟨ho, hB⟩
        clear ho hB hke
        go_wp2
        go_ret2
        exact ⟨_, ret_v (by rw [HF.out]; rfl), fun _ => own_base HO.out.1 HW.out.size, fun h => absurd HF.out h, on1 HW.out HO.out.2⟩
  · have HF : Hid (¬ fE N T id = 0) := hf
    rw [errV_ne hf] at cc
    clear hf hn hm
    go_enter Tryz.func9, Tryz.ntmps9
    go_wp2_with (first | (go_at_call 19; refine cc.mono ?_; rintro e W1 ⟨x, rfl, hB1⟩))
    go_ret2
    exact ⟨.slice none 0 0, ret_v (by rw [errV_ne HF.out]; rfl), fun h => absurd h HF.out, fun _ => rfl, on1 hB hB1⟩

set_option maxHeartbeats 2000000 in
set_option maxRecDepth 100000 in
theorem sints_any {va vb : Value} {L M : List Int} {w : World} (ha : IsI w va L) (hb : IsI w vb M) (hl : L.length ≤ 1000) (hm : M.length ≤ 1000) :
    Calls Tryz.prog 12 #[va, vb] w fun e w' => e = .returned (.bool (decide (L = M))) ∧ Below w.heap.size w w' := by
  have fm : ∀ {v : Value} {L : List Int}, IsI w v L → ∃ ao c, v = .slice ao L.length c ∧ (L = [] ∨ ∃ b, ao = some ⟨b, 0, none⟩ ∧ ∀ k x, L[k]? = some x → w.cell? ⟨b, k, none⟩ = some (.int .i64 x)) := by
    rintro v L (⟨rfl, rfl⟩ | ⟨b, cap, rfl, _, _, h⟩)
    · exact ⟨_, _, rfl, .inl rfl⟩
    · exact ⟨_, _, rfl, .inr ⟨b, rfl, h⟩⟩
  obtain ⟨ao, ca, rfl, h1⟩ := fm ha
  obtain ⟨bo, cb, rfl, h2⟩ := fm hb
  clear fm ha hb
  by_cases hn : L.length = M.length
  · have HN : Hid (L.length = M.length) := hn
    have hni : ((L.length : Int) != (M.length : Int)) = false := by simp [hn]
    have hnd : ¬ ¬ (L.length : Int) = (M.length : Int) := by simp [hn]
    clear hn
    go_enter Tryz.func12, Tryz.ntmps12
    go_wp2
    go_loopw [5] (fun i wr => ∃ k q : Nat, k ≤ L.length ∧ i = .int .i64 k ∧ wr = w.drewN q ∧ L.take k = M.take k) (fun i _ => L.length - (intOf i).toNat)
    case atStart => exact ⟨0, 0, Nat.zero_le _, rfl, rfl, rfl⟩
    case round =>
      obtain ⟨k, q, hk, rfl, rfl, htk⟩ := hrel
      have HT : Hid (L.take k = M.take k) := htk
      clear htk
      by_cases hlt : k < L.length
      · have hlm : k < M.length := by have := HN.out; omega
        obtain ⟨x, hx⟩ : ∃ x, L[k]? = some x := ⟨L[k], by simp [hlt]⟩
        obtain ⟨y, hy⟩ : ∃ y, M[k]? = some y := ⟨M[k], by simp [hlm]⟩
        rcases h1 with rfl | ⟨b1, rfl, l1⟩
        · exact absurd hlt (by simp)
        rcases h2 with rfl | ⟨b2, rfl, l2⟩
        · exact absurd hlm (by simp)
        have c0 := l1 k x hx
        have d0 := l2 k y hy
        have HX : Hid (L[k]? = some x ∧ M[k]? = some y) := ⟨hx, hy⟩
        clear l1 l2 hx hy
        generalize hW : w.drewN q = W at *
        have e0 : W.cell? ⟨b1, k, none⟩ = some (.int .i64 x) := by rw [← hW]; exact c0
        have f0 : W.cell? ⟨b2, k, none⟩ = some (.int .i64 y) := by rw [← hW]; exact d0
        clear c0 d0
        by_cases hxy : x = y
        · have HE : Hid (L.take (k + 1) = M.take (k + 1)) := by
            show _ = _
            rw [takeK HX.out.1, takeK HX.out.2, HT.out, hxy]
          subst hxy
          go_wp2_with fail
          go_quiet (fail)
          go_wp2
          refine ⟨⟨k + 1, q + nq, hlt, ?_, by rw [← hW, World.drewN_drewN], HE.out⟩, ?_⟩
          · go_num
          · simp [intOf]
            omega
        · have hb' : (x != y) = true := by simpa using hxy
          have HE : Hid (decide (L = M) = false) := by
            refine decide_eq_false fun e => hxy ?_
            rw [e] at HX
            exact Option.some.inj (HX.out.1.symm.trans HX.out.2)
          clear HX
          go_wp2_with fail
          go_quiet (fail)
          go_wp2
          go_ret
          exact ⟨ret_bool (by rw [HE.out]), by rw [← hW]; exact b_drewK (b_drewK (Below.refl _ _) _) _⟩
      · have HE : Hid (decide (L = M) = true) := by
          have e := HT.out
          rw [List.take_of_length_le (by omega), List.take_of_length_le (by have := HN.out; omega)] at e
          exact decide_eq_true e
        clear HT
        go_wp2
        go_ret
        exact ⟨ret_bool (by rw [HE.out]), b_drewK (Below.refl _ _) _⟩
  · have HE : Hid (decide (L = M) = false) := decide_eq_false fun e => hn (by rw [e])
    rw [HE.out]
    have hni : ((L.length : Int) != (M.length : Int)) = true := by simp; omega
    have hnd : ¬ (L.length : Int) = (M.length : Int) := by omega
    clear hn
    go_enter Tryz.func12, Tryz.ntmps12
    go_wp2
    go_ret
    exact ⟨rfl, Below.refl _ _⟩

/-! ### What the law asks at each step of a row -/
section
variable {vn vt vk : Value} {L : List Kd} {B : List Bd} {N : List Nd} {T : List Te} {p : Sp} {x : Int} {W : World}
theorem has_of {n : Nd} (hn : n ∈ N) (hi : n.id = x) : hasId N x = true := by unfold hasId; rw [List.any_eq_true]; exact ⟨n, hn, by simpa using hi⟩
theorem idxN_ge (id : Int) : ∀ (N : List Nd) (s : Nat), idxN id N s = -1 ∨ (s : Int) ≤ idxN id N s
  | [], s => .inl rfl
  | n :: r, s => by
    unfold idxN
    by_cases e : n.id = id
    · rw [if_pos e]; exact .inr (Int.le_refl _)
    · rw [if_neg e]
      rcases idxN_ge id r (s + 1) with h | h
      · exact .inl h
      · exact .inr (by omega)
theorem idxN_id (id : Int) : ∀ (N : List Nd) (s j : Nat) (m : Nd), N[j]? = some m → idxN id N s = ((s + j : Nat) : Int) → m.id = id
  | [], s, j, m, h, _ => by simp at h
  | n :: r, s, j, m, h, hx => by
    by_cases e : n.id = id
    · have h0 : idxN id (n :: r) s = (s : Int) := by unfold idxN; rw [if_pos e]
      have hj : j = 0 := by omega
      subst hj
      obtain rfl : n = m := by simpa using h
      exact e
    · have h0 : idxN id (n :: r) s = idxN id r (s + 1) := by conv => lhs; unfold idxN
                                                             rw [if_neg e]
      match j with
      | 0 => rcases idxN_ge id r (s + 1) with q | q <;> omega
      | j + 1 => exact idxN_id id r (s + 1) j m (by simpa using h) (by omega)
theorem srtN_one {N : List Nd} (h : SrtN N) {a b : Nd} (ha : a ∈ N) (hb : b ∈ N) (e : a.id = b.id) : a = b := by
  obtain ⟨i, hi⟩ := List.getElem?_of_mem ha
  obtain ⟨j, hj⟩ := List.getElem?_of_mem hb
  obtain ⟨i1, rfl⟩ := List.getElem?_eq_some_iff.1 hi
  obtain ⟨j1, rfl⟩ := List.getElem?_eq_some_iff.1 hj
  rcases Nat.lt_trichotomy i j with h' | h' | h'
  · have := List.pairwise_iff_getElem.1 h i j i1 j1 h'; omega
  · subst h'; rfl
  · have := List.pairwise_iff_getElem.1 h j i j1 i1 h'; omega
/-- A node of the row, as the law reads it. -/
def NdR (L : List Kd) (N : List Nd) (p : Sp) (x : Int) (kd : ByteArray) (rc : List Pr) : Prop := hasN (under L p.kd) kd.toList = true ∧ p.ts.all (pass rc) = true ∧ rErr rc = 0 ∧ Sz rc ∧ rc.length ≤ maxLen
theorem node_row (hN : IsN W vn N) (hT : IsT W vt T) (z1 : SzN N) (z2 : SzT T) (hg : gErr N T = 0) (hx : x ∈ fitI L N p) :
    Calls Tryz.prog 5 #[.agg #[vn, vt], .int .i64 x] W fun e w' => ∃ kd a l c rc, e = .returned (.tuple #[.agg #[.int .i64 x, .string kd, .slice a l c], .nilIface]) ∧ (OwnRc w' 0 (.slice a l c) rc ∧ NdR L N p x kd rc) ∧ Below W.heap.size W w' := by
  obtain ⟨n, hn, rfl, h1, h2⟩ := fit_node hx
  refine (node_any hN hT z1 z2 hg (gErr_rc8 hg) n.id).mono ?_
  rintro e w' ⟨i, k, a, l, c, rfl, hp, hB⟩
  have hh := has_of hn rfl
  obtain ⟨j, m, hm, hj, rfl, rfl, ho⟩ := hp hh
  have hmi : m.id = n.id := idxN_id n.id N 0 j m hm (by rw [hj, Nat.zero_add])
  obtain rfl : m = n := srtN_one (gErr_srt hg) (List.mem_of_getElem? hm) hn hmi
  obtain ⟨_, _, e3⟩ := chkN_rc N none (gErr_lens hg).2.2.1 m hn
  have hz := z1 m hn
  exact ⟨m.kd, a, l, c, m.rc, by rw [fE_ok hg hh, errV_0], ⟨own_base ho (Nat.zero_le _), h1, h2, e3, hz.2.1, hz.2.2⟩, hB⟩
theorem is_row (hK : IsK W vk L) (hP : Parts W L) (hz : SzK L) {kd : ByteArray} (hm : nmErr L p.kd = 0) (h : hasN (under L p.kd) kd.toList = true) :
    Calls Tryz.prog 6 #[vk, .string kd, .string (bs p.kd)] W fun e w' => e = .returned (.tuple #[.bool true, .nilIface]) ∧ Below W.heap.size W w' := by
  obtain ⟨h1, h2⟩ := under_kin hm h
  have c := kis_any hK hP hz kd.toList p.kd
  rw [h1, h2, errV_0, bs_self] at c
  exact c
theorem pass_row {v : Value} {kd : ByteArray} {rc : List Pr} (hR : IsR W v rc) (h : NdR L N p x kd rc) {F : List Fd} (ht : tsE F p.ts = 0) {y : Tst} (hy : y ∈ p.ts) (hz : TsSz y) :
    Calls Tryz.prog 7 #[v, y.one] W fun e w' => e = .returned (.tuple #[.bool true, .nilIface]) ∧ Below W.heap.size W w' := by
  obtain ⟨_, h2, h3, h4, h5⟩ := h
  obtain ⟨q1, q2⟩ := tsE_all p.ts ht y hy
  have c := Passes_ok hR h4 h5 y hz h3 q1 q2
  rw [List.all_eq_true.1 h2 y hy] at c
  exact c
theorem out_row (hN : IsN W vn N) (hT : IsT W vt T) (z1 : SzN N) (z2 : SzT T) (hg : gErr N T = 0) {q : Sp} (hx : x ∈ fitI L N q) (bd : ByteArray) :
    Calls Tryz.prog 8 #[.agg #[vn, vt], .int .i64 x, .string bd] W fun e w' => ∃ v, e = .returned (.tuple #[v, .nilIface]) ∧ IsI w' v (outs T bd x) ∧ Below W.heap.size W w' := by
  obtain ⟨n, hn, rfl, _, _⟩ := fit_node hx
  have hl := gErr_len hg
  have f := fE_ok hg (has_of hn rfl)
  refine (out_any hN hT z1 z2 (by unfold maxLen; omega) (by unfold maxLen; omega) n.id bd).mono ?_
  rintro e w' ⟨v, rfl, h1, _, hB⟩
  exact ⟨v, by rw [f, errV_0], own_isI (h1 f), hB⟩
theorem in_row (hN : IsN W vn N) (hT : IsT W vt T) (z1 : SzN N) (z2 : SzT T) (hg : gErr N T = 0) {q : Sp} (hx : x ∈ fitI L N q) (bd : ByteArray) :
    Calls Tryz.prog 9 #[.agg #[vn, vt], .int .i64 x, .string bd] W fun e w' => ∃ v, e = .returned (.tuple #[v, .nilIface]) ∧ IsI w' v (inns T bd x) ∧ Below W.heap.size W w' := by
  obtain ⟨n, hn, rfl, _, _⟩ := fit_node hx
  have hl := gErr_len hg
  have f := fE_ok hg (has_of hn rfl)
  refine (in_any hN hT z1 z2 (by unfold maxLen; omega) (by unfold maxLen; omega) n.id bd).mono ?_
  rintro e w' ⟨v, rfl, h1, _, hB⟩
  exact ⟨v, by rw [f, errV_0], own_isI (h1 f), hB⟩
theorem tied_out {y : Int} (hb : p.back = false) (h : tiedB T p x y = true) : (outs T (bs p.bd) x).contains y = true := by
  have hm := fndT_mem (show fndT ⟨bs p.bd, endA p.back x y, endA p.back y x⟩ T = true from h)
  rw [hb] at hm
  rw [List.contains_iff_mem]
  exact List.mem_map.2 ⟨_, List.mem_filter.2 ⟨hm, by simp [Te.hit, endA]⟩, rfl⟩
theorem tied_in {y : Int} (hb : p.back = true) (h : tiedB T p x y = true) : (inns T (bs p.bd) x).contains y = true := by
  have hm := fndT_mem (show fndT ⟨bs p.bd, endA p.back x y, endA p.back y x⟩ T = true from h)
  rw [hb] at hm
  rw [List.contains_iff_mem]
  exact List.mem_map.2 ⟨_, List.mem_filter.2 ⟨hm, by simp [Te.hit, endA]⟩, rfl⟩
end
end Go.Proofs.YtifcpjimhhpcpaaGreatDoor

/-
  Steps of the call's own.
-/
namespace Go.Proofs.YtifcpjimhhpcpaaGreatDoor
open Go.RowKit
set_option linter.unusedVariables false
set_option linter.unusedSimpArgs false

def Sp.cells (p : Sp) : List Value := [.string (bs p.bd), .bool p.back, .string (bs p.kd), p.vt]
def cellsSp (L : List Sp) : List Value := L.flatMap Sp.cells
theorem cellsSp_snoc (L : List Sp) (p : Sp) : cellsSp (L ++ [p]) = cellsSp L ++ p.cells := by simp [cellsSp]
theorem infoSp : (Tryz.prog.info? 46).map (fun i => (i.zero, i.size, i.bytes)) = some (some (.agg #[.string ⟨#[]⟩, .bool false, .string ⟨#[]⟩, .slice none 0 0]), 4, 64) := by kernel_rfl
theorem own_isSp {w : World} {base : Nat} {v : Value} {M : List Sp} (h : w.ownsRow base 46 4 v M.length (cellsSp M)) (ht : ∀ p ∈ M, IsTs w p.vt p.ts) : IsSp w v M := by
  have hc : ∀ g, v.ownBlock = some g → ∀ j u, (cellsSp M)[j]? = some u → w.cell? ((⟨g, 0, none⟩ : Addr).add j) = some u := fun g hg => h.cells hg
  rcases h.2 with ⟨rfl, h0⟩ | ⟨g, cap, cur, rfl, hb, hg, hle, hcm, hcs, _⟩
  · obtain rfl := List.eq_nil_of_length_eq_zero h0
    exact ⟨none, 0, rfl, Nat.le_refl _, Nat.zero_le _, .inl rfl⟩
  · refine ⟨_, cap, rfl, hle, hcm, .inr ⟨g, 0, rfl, (Array.getElem?_eq_some_iff.1 hg).1, fun k p hp => ⟨?_, ht p (List.mem_of_getElem? hp)⟩⟩⟩
    have hat := flat_at Sp.cells 4 (fun _ => rfl) M k p
    have hc' := hc g rfl
    have d0 := hc' _ _ ((hat 0 hp (by decide)).trans rfl)
    have d1 := hc' _ _ ((hat 1 hp (by decide)).trans rfl)
    have d2 := hc' _ _ ((hat 2 hp (by decide)).trans rfl)
    have d3 := hc' _ _ ((hat 3 hp (by decide)).trans rfl)
    rw [Addr.add_lit] at d0 d1 d2 d3
    exact ⟨d0, by rw [Nat.add_assoc]; exact d1, by rw [Nat.add_assoc]; exact d2, by rw [Nat.add_assoc]; exact d3⟩
theorem isTs_nil (w : World) : IsTs w (.slice none 0 0) [] := ⟨none, 0, rfl, .inl rfl⟩
end Go.Proofs.YtifcpjimhhpcpaaGreatDoor

/-
  What PathHolds' own walk needs: its fact; where its loops stand.
-/
namespace Go.Proofs.YtifcpjimhhpcpaaGreatDoor
open Go.RowKit
set_option linter.unusedVariables false
set_option linter.unusedSimpArgs false

/-! ### The law's fact -/
def kd0 : Kd := ⟨[97], [], [], .slice none 0 0, .slice none 0 0⟩
def nd0 : Nd := ⟨3, ⟨#[97]⟩, .slice none 0 0, []⟩
def sp0 : Sp := ⟨[], false, [97], .slice none 0 0, []⟩
theorem s0_err : (sErr [kd0] []).2 = 0 := by decide +kernel
theorem pt0 : (ptE [kd0] [] [sp0]).2 = 0 := by
  unfold ptE
  rw [if_pos s0_err, if_neg (by simp), if_neg (by simp)]
  decide +kernel
theorem g0_err : gErr [nd0] [] = 0 := by decide +kernel
theorem in0 : inE [kd0] [] [nd0] [] = 0 := by unfold inE; rw [if_pos s0_err]; exact g0_err
theorem conf0 : confB [kd0] [] [nd0] [] = true := by
  unfold confB
  rw [in0]
  decide +kernel
theorem fit0 : fitI [kd0] [nd0] sp0 = [3] := by
  have e : (⟨#[97]⟩ : ByteArray).toList = [97] := by rw [Lib.toList_data]
  have hf : fitB [kd0] sp0 nd0 = true := by
    unfold fitB
    rw [show nd0.kd = ⟨#[97]⟩ from rfl, e]
    decide +kernel
  unfold fitI
  rw [List.filter_cons_of_pos hf]; rfl
theorem walk0 : walkR [kd0] [nd0] [] [sp0] [[]] = some [[3]] := by
  unfold walkR
  rw [fit0]
  have : lngr [] sp0 [3] [[]] = [[3]] := by simp [lngr, leadB]
  rw [this, if_neg (by simp)]; rfl
theorem walkE0 : walkE [kd0] [] [nd0] [] [sp0] = 0 := by
  unfold walkE; rw [if_pos pt0, if_pos in0, if_pos conf0, walk0]
/-- The world in which the law asks its fact. -/
abbrev fcP (W : World) : World := ((((W.alloc (.cells #[.string ⟨#[97]⟩, .slice none 0 0, .slice none 0 0] 34)).alloc (.cells #[.slice (some ⟨W.heap.size, 0, none⟩) 1 1, .slice none 0 0] 25)).alloc (.cells #[.int .i64 3, .string ⟨#[97]⟩, .slice none 0 0] 38)).alloc (.cells #[.slice (some ⟨W.heap.size + 1 + 1, 0, none⟩) 1 1, .slice none 0 0] 29)).alloc (.cells #[.string ⟨#[]⟩, .bool false, .string ⟨#[97]⟩, .slice none 0 0] 46)
theorem fcP_at (W : World) : (fcP W).heap[W.heap.size]? = some (.cells #[.string ⟨#[97]⟩, .slice none 0 0, .slice none 0 0] 34 (0, 0)) ∧ (fcP W).heap[W.heap.size + 1 + 1]? = some (.cells #[.int .i64 3, .string ⟨#[97]⟩, .slice none 0 0] 38 (0, 0)) ∧ (fcP W).heap[W.heap.size + 1 + 1 + 1 + 1]? = some (.cells #[.string ⟨#[]⟩, .bool false, .string ⟨#[97]⟩, .slice none 0 0] 46 (0, 0)) := by
  refine ⟨?_, ?_, ?_⟩
  · refine (heap_alloc_old _ _ (by simp; omega)).trans ((heap_alloc_old _ _ (by simp; omega)).trans ((heap_alloc_old _ _ (by simp; omega)).trans ((heap_alloc_old _ _ (by simp)).trans (heap_alloc_new W _))))
  · have h := heap_alloc_new ((W.alloc (.cells #[.string ⟨#[97]⟩, .slice none 0 0, .slice none 0 0] 34)).alloc (.cells #[.slice (some ⟨W.heap.size, 0, none⟩) 1 1, .slice none 0 0] 25)) (.cells #[.int .i64 3, .string ⟨#[97]⟩, .slice none 0 0] 38)
    rw [World.size_alloc, World.size_alloc] at h
    exact (heap_alloc_old _ _ (by simp)).trans ((heap_alloc_old _ _ (by simp)).trans h)
  · have h := heap_alloc_new ((((W.alloc (.cells #[.string ⟨#[97]⟩, .slice none 0 0, .slice none 0 0] 34)).alloc (.cells #[.slice (some ⟨W.heap.size, 0, none⟩) 1 1, .slice none 0 0] 25)).alloc (.cells #[.int .i64 3, .string ⟨#[97]⟩, .slice none 0 0] 38)).alloc (.cells #[.slice (some ⟨W.heap.size + 1 + 1, 0, none⟩) 1 1, .slice none 0 0] 29)) (.cells #[.string ⟨#[]⟩, .bool false, .string ⟨#[97]⟩, .slice none 0 0] 46)
    rw [World.size_alloc, World.size_alloc, World.size_alloc, World.size_alloc] at h
    exact h
theorem fcP_size (W : World) : (fcP W).heap.size = W.heap.size + 1 + 1 + 1 + 1 + 1 := by simp [fcP]
theorem one_of {α : Type} {x y : α} {k : Nat} (h : [x][k]? = some y) : k = 0 ∧ x = y := by
  have := (List.getElem?_eq_some_iff.1 h).1
  have hk : k = 0 := by simp at this; exact this
  subst hk
  exact ⟨rfl, by simpa using h⟩
theorem fcP_any (W : World) : Calls Tryz.prog 4 #[.agg #[.slice (some ⟨W.heap.size, 0, none⟩) 1 1, .slice none 0 0], .agg #[.slice (some ⟨W.heap.size + 1 + 1, 0, none⟩) 1 1, .slice none 0 0], .slice (some ⟨W.heap.size + 1 + 1 + 1 + 1, 0, none⟩) 1 1] (fcP W) fun e w' => ∃ b c b2 c2, e = .returned (.tuple #[.slice (some ⟨b, 0, none⟩) 1 c, .nilIface]) ∧ w'.cell? ⟨b, 0, none⟩ = some (.slice (some ⟨b2, 0, none⟩) 1 c2) ∧ w'.cell? ⟨b2, 0, none⟩ = some (.int .i64 3) ∧ Below W.heap.size W w' := by
  obtain ⟨n1, n2, n3⟩ := fcP_at W
  have hz := fcP_size W
  have hB : Below W.heap.size W (fcP W) := b_alloc (b_alloc (b_alloc (b_alloc (b_alloc (Below.refl _ _) _) _) _) _) _
  have hm1 : (1 : Nat) ≤ maxLen := by unfold maxLen; omega
  have h0 : (0 : Nat) ≤ maxLen := Nat.zero_le _
  have hS : IsS (fcP W) (.slice none 0 0) [] := .inl ⟨none, 0, rfl, rfl, by decide, fun _ => rfl⟩
  have hF : IsF (fcP W) (.slice none 0 0) [] := .inl ⟨none, 0, rfl, rfl, by decide, fun _ => rfl⟩
  have hK : IsK (fcP W) (.slice (some ⟨W.heap.size, 0, none⟩) 1 1) [kd0] := .inr ⟨W.heap.size, 0, 1, rfl, Nat.le_refl _, hm1, by rw [hz]; omega, fun i k hk => by
    obtain ⟨rfl, rfl⟩ := one_of hk
    exact ⟨cell_at n1 rfl, cell_at n1 rfl, cell_at n1 rfl⟩⟩
  have hPt : Parts (fcP W) [kd0] := fun k hk => by rw [List.mem_singleton.1 hk]; exact ⟨hS, hF⟩
  have hzk : SzK [kd0] := fun k hk => by
    rw [List.mem_singleton.1 hk]
    exact ⟨hm1, fun f hf => by cases hf⟩
  have hSc : IsSc (fcP W) (.agg #[.slice (some ⟨W.heap.size, 0, none⟩) 1 1, .slice none 0 0]) [kd0] [] := ⟨_, _, rfl, hK, hPt, hzk, .inl ⟨rfl, rfl⟩, fun x hx => by cases hx⟩
  have hG : IsG (fcP W) (.agg #[.slice (some ⟨W.heap.size + 1 + 1, 0, none⟩) 1 1, .slice none 0 0]) [nd0] [] := by
    refine ⟨_, _, rfl, ⟨_, 1, rfl, Nat.le_refl _, .inr ⟨W.heap.size + 1 + 1, 0, rfl, by rw [hz]; omega, fun k x hx => ?_⟩⟩, ⟨none, 0, rfl, Nat.le_refl _, .inl rfl⟩, fun n hn => ?_, fun t ht => (by cases ht), hm1, h0⟩
    · obtain ⟨rfl, rfl⟩ := one_of hx
      exact ⟨cell_at n2 rfl, cell_at n2 rfl, cell_at n2 rfl, ⟨none, 0, rfl, .inl rfl⟩⟩
    · rw [List.mem_singleton.1 hn]
      exact ⟨hm1, fun q hq => (by cases hq), h0⟩
  have hL : IsSp (fcP W) (.slice (some ⟨W.heap.size + 1 + 1 + 1 + 1, 0, none⟩) 1 1) [sp0] := by
    refine ⟨_, 1, rfl, Nat.le_refl _, hm1, .inr ⟨W.heap.size + 1 + 1 + 1 + 1, 0, rfl, by rw [hz]; omega, fun k x hx => ?_⟩⟩
    obtain ⟨rfl, rfl⟩ := one_of hx
    exact ⟨⟨cell_at n3 rfl, cell_at n3 rfl, cell_at n3 rfl, cell_at n3 rfl⟩, isTs_nil _⟩
  refine (walk_any hSc hG hL (fun p hp => by rw [List.mem_singleton.1 hp]; exact ⟨h0, fun x hx => by cases hx⟩)).mono ?_
  rintro e w' ⟨v, rfl, hr, hB'⟩
  obtain ⟨R, hR, hI, _, _⟩ := hr walkE0
  obtain rfl : R = [[3]] := Option.some.inj (hR.symm.trans walk0)
  rcases hI with ⟨_, h⟩ | ⟨b, c, rfl, _, hc⟩
  · cases h
  obtain ⟨u, hu, hI⟩ := hc 0 [3] rfl
  rcases hI with ⟨_, h⟩ | ⟨b2, c2, rfl, _, _, hc2⟩
  · cases h
  exact ⟨b, c, b2, c2, by rw [walkE0, errV_0]; rfl, hu, hc2 0 3 rfl, on1K hB hB' (Nat.le_refl _)⟩

/-! ### Where the law stands -/
/-- Where a loop stands. -/
def LwI (n : Nat) (W : World) (i : Value) (wr : World) : Prop := ∃ k : Nat, k ≤ n ∧ i = .int .i64 k ∧ Below W.heap.size W wr
/-- Behind graph.Node. -/
def NdC (W : World) (L : List Kd) (N : List Nd) (p : Sp) (x : Int) (s15 s16 : Value) (wx : World) : Prop :=
  ∃ q kd a l c rc, s15 = .pointer (some ⟨q, 0, none⟩) ∧ s16 = .nilIface ∧ wx.heap[q]? = some (.cells #[.int .i64 x, .string kd, .slice a l c] 38 (0, 0)) ∧ IsR wx (.slice a l c) rc ∧ NdR L N p x kd rc ∧ Below W.heap.size W wx
theorem ndC_alloc {W W2 : World} {L : List Kd} {N : List Nd} {p : Sp} {x : Int} {kd : ByteArray} {a : Option Addr} {l c : Nat} {rc : List Pr} (h1 : OwnRc W2 0 (.slice a l c) rc) (h2 : NdR L N p x kd rc) (h3 : Below W.heap.size W W2) : NdC W L N p x (.pointer (some ⟨W2.heap.size, 0, none⟩)) .nilIface (W2.alloc (.cells #[.int .i64 x, .string kd, .slice a l c] 38)) :=
  ⟨_, kd, a, l, c, rc, rfl, rfl, heap_alloc_new W2 _, h1.isR.on (b_alloc (Below.refl _ _) _), h2, b_alloc h3 _⟩
theorem ndC_set {W W2 : World} {L : List Kd} {N : List Nd} {p : Sp} {x : Int} {kd : ByteArray} {a : Option Addr} {l c p2 : Nat} {rc : List Pr} {z1 z2 z3 : Value} (hp : W2.heap[p2]? = some (.cells #[z1, z2, z3] 38 (0, 0))) (hpW : W.heap.size ≤ p2) (h0 : OwnRc W2 0 (.slice a l c) rc) (h2 : NdR L N p x kd rc) (h3 : Below W.heap.size W W2) : NdC W L N p x (.pointer (some ⟨p2, 0, none⟩)) .nilIface (((W2.setCell ⟨p2, 0, none⟩ (.int .i64 x)).setCell ⟨p2, 1, none⟩ (.string kd)).setCell ⟨p2, 2, none⟩ (.slice a l c)) := by
  have hty : Ty W2 p2 38 := ⟨_, hp⟩
  have hk : Kt 107 W2 (((W2.setCell ⟨p2, 0, none⟩ (.int .i64 x)).setCell ⟨p2, 1, none⟩ (.string kd)).setCell ⟨p2, 2, none⟩ (.slice a l c)) := (Kt.refl 107 W2).ty3 hty (by decide) 0 1 2 _ _ _
  exact ⟨p2, kd, a, l, c, rc, rfl, rfl, heap_setCell_same _ _ 2 _ 38 _ (heap_setCell_same _ _ 1 _ 38 _ (heap_setCell_same W2 _ 0 _ 38 _ hp)), OwnRc.isR (own_kt h0 hk), h2, below_set3 h3 hpW _ _ _ _ _ _⟩
theorem isSc_slP {w : World} {v : Value} {L : List Kd} {B : List Bd} (h : IsSc w v L B) : ∃ a n c b m d, v = .agg #[.slice a n c, .slice b m d] := by
  obtain ⟨vk, vb, rfl, hK, _, _, hb, _⟩ := h
  obtain ⟨ak, ck, rfl, _⟩ := hK.sln
  obtain ⟨ab, cb, rfl, _⟩ := hb.sln
  exact ⟨_, _, _, _, _, _, rfl⟩
end Go.Proofs.YtifcpjimhhpcpaaGreatDoor
