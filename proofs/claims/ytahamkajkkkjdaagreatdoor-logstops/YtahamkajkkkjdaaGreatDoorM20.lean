import Derived.Test.YtahamkajkkkjdaaGreatDoorM19
namespace Go.Proofs.YtahamkajkkkjdaaGreatDoor
open Go.RowKit
open Go.Maps (Keyed)
set_option linter.unusedVariables false
set_option linter.unusedSimpArgs false
def NSt (w : World) (c1 c2 : Array Value) (O : Ou) (T : Tk) (wr : World) : Prop :=
  Below w.heap.size w wr ∧ w.heap.size + 4 ≤ wr.heap.size ∧ wr.heap[w.heap.size]? = some (.cells c1 246 (0, 0)) ∧ wr.heap[w.heap.size + 1]? = some (.cells c2 67 (0, 0)) ∧ MapIn wr 294 encE (w.heap.size + 3) O ∧ MapIn wr 359 encQ (w.heap.size + 2) T
section
variable {w wr w' : World} {c1 c2 : Array Value} {O : Ou} {T : Tk}
theorem NSt.grow {r : Option Nat} (h : NSt w c1 c2 O T wr) (hg : wr.grownBy w' r) (hr : ∀ g, r = some g → w.heap.size + 4 ≤ g) : NSt w c1 c2 O T w' := by
  obtain ⟨h1, h2, h3, h4, h5, h6⟩ := h
  have hne : ∀ b, b < w.heap.size + 4 → some b ≠ r := fun b hb e => by have := hr b e.symm; omega
  exact ⟨⟨hg.os.trans h1.os, hg.tape.trans h1.tape, hg.output.trans h1.output, Nat.le_trans h1.size hg.size, fun k hk => (hg.block k (by omega) (hne k (by omega))).trans (h1.block k hk)⟩, Nat.le_trans h2 hg.size, (hg.block _ (by omega) (hne _ (by omega))).trans h3, (hg.block _ (by omega) (hne _ (by omega))).trans h4, OwnM.of_block h5 (hg.block _ (by omega) (hne _ (by omega))), OwnM.of_block h6 (hg.block _ (by omega) (hne _ (by omega)))⟩
theorem NSt.below (h : NSt w c1 c2 O T wr) (hB : Below wr.heap.size wr w') : NSt w c1 c2 O T w' := h.grow (but_of_below hB none) (fun g hg => by cases hg)
theorem NSt.take {T' : Tk} (h : NSt w c1 c2 O T wr) (hg : wr.grownBy w' (some (w.heap.size + 2))) (hm : MapIn w' 359 encQ (w.heap.size + 2) T') : NSt w c1 c2 O T' w' := by
  obtain ⟨h1, h2, h3, h4, h5, h6⟩ := h
  exact ⟨h1.trans (below_but hg (by omega) (by omega)), Nat.le_trans h2 hg.size, (hg.block _ (by omega) (by simp)).trans h3, (hg.block _ (by omega) (by simp)).trans h4, OwnM.of_block h5 (hg.block _ (by omega) (by simp)), hm⟩
theorem NSt.outs {O' : Ou} (h : NSt w c1 c2 O T wr) (hg : wr.grownBy w' (some (w.heap.size + 3))) (hm : MapIn w' 294 encE (w.heap.size + 3) O') : NSt w c1 c2 O' T w' := by
  obtain ⟨h1, h2, h3, h4, h5, h6⟩ := h
  exact ⟨h1.trans (below_but hg (by omega) (by omega)), Nat.le_trans h2 hg.size, (hg.block _ (by omega) (by simp)).trans h3, (hg.block _ (by omega) (by simp)).trans h4, hm, OwnM.of_block h6 (hg.block _ (by omega) (by simp))⟩
end
def TeOk (t : Te) : Prop := t.bd.size ≤ maxLen ∧ in64 t.fr ∧ in64 t.tt
def CntOk (O : Ou) (n : Nat) : Prop := ∀ x, 0 ≤ (O x).getD 0 ∧ (O x).getD 0 ≤ n
theorem cnt_step {O : Ou} {n : Nat} (h : CntOk O n) (t : Te) : CntOk (outS O t) (n + 1) := fun x => by
  have h1 := h x
  have h2 := h (t.bd, t.fr)
  unfold outS upd
  split
  · simp only [Option.getD_some]; omega
  · omega
theorem outO_take {T : List Te} {k : Nat} {t : Te} (h : T[k]? = some t) : outO (T.take (k + 1)) = outS (outO (T.take k)) t := foldl_take _ _ h
theorem entry_more {W : World} {b : Nat} {O : Ou} (hm : MapIn W 294 encE b O) {bd : ByteArray} {fr : Int} {l : Lit} (hk : keyOf Tryz.prog 294 (encE (bd, fr)) = some l) {c : Int} (hc : (O (bd, fr)).getD 0 = c) :
    ∃ (w2 w3 : World) (n : Nat), (Instr.lookup 292 (.map (some b)) (.agg #[.string bd, .int .i64 fr]) false).run Tryz.prog W = .ok (.int .i64 c) W ∧ (Instr.mapEntry 292 (.map (some b)) (.agg #[.string bd, .int .i64 fr])).run Tryz.prog W = .ok (.tuple #[.int .i64 c, .int .i64 n]) w2 ∧ (Instr.lookup 292 (.map (some b)) (.agg #[.string bd, .int .i64 fr]) false).run Tryz.prog w2 = .ok (.int .i64 c) w2 ∧ (Instr.entryStore 292 (.map (some b)) (.int .i64 n) (.int .i64 (c + 1))).run Tryz.prog w2 = .ok () w3 ∧ MapIn w3 294 encE b (upd O (bd, fr) (c + 1)) ∧ W.grownBy w2 (some b) ∧ W.grownBy w3 (some b) ∧ Kp W w2 ∧ Kp W w3 := by
  have e1 := look_in hm keyedE encE_inj Tryz.underlying292 (zero3 W) hk
  rw [hc] at e1
  obtain ⟨w2, n, r1, r2, r3⟩ := OwnM.entry hm keyedE encE_inj Tryz.underlying292 (zero3 W) hk
  have hg : ((O (bd, fr)).map (Value.int .i64)).getD (.int .i64 0) = .int .i64 c := by rw [← hc]; cases O (bd, fr) <;> rfl
  rw [hg] at r1 r2
  have e2 := OwnM.look r2.m keyedE encE_inj Tryz.underlying292 (zero3 w2) hk false
  simp only [Bool.false_eq_true, if_false] at e2
  have e3 : (upd (fun x => (O x).map (Value.int .i64)) (bd, fr) (.int .i64 c) (bd, fr)).getD (.int .i64 0) = .int .i64 c := by unfold upd; rw [if_pos rfl]; rfl
  rw [e3] at e2
  obtain ⟨w3, s1, s2, s3⟩ := r2.store encE_inj 292 (.int .i64 (c + 1))
  have hK2 := but_map hm r3
  have hK3 := but_map r2.m s3
  refine ⟨w2, w3, n, e1, r1, e2, s1, ?_, r3, but_trans r3 s3, hK2, hK2.trans hK3⟩
  have e4 : upd (upd (fun x => (O x).map (Value.int .i64)) (bd, fr) (.int .i64 c)) (bd, fr) (.int .i64 (c + 1)) = fun x => (upd O (bd, fr) (c + 1) x).map (Value.int .i64) := by
    funext x
    unfold upd
    split <;> rfl
  rw [e4] at s2
  exact s2
theorem IsN.at {w : World} {v : Value} {L : List Nd} (h : IsN w v L) {k : Nat} {x : Nd} (hx : L[k]? = some x) : ∃ b off c, v = .slice (some ⟨b, off, none⟩) L.length c ∧ b < w.heap.size ∧ w.cell? ⟨b, off + k * 3, none⟩ = some (.int .i64 x.id) ∧ w.cell? ⟨b, off + k * 3 + 1, none⟩ = some (.string x.kd) ∧ w.cell? ⟨b, off + k * 3 + 2, none⟩ = some x.rv ∧ IsR w x.rv x.rc := by
  obtain ⟨ao, c, rfl, hc, rfl | ⟨b, off, rfl, hb, hL⟩⟩ := h
  · simp at hx
  · exact ⟨b, off, c, rfl, hb, hL k x hx⟩
theorem IsT.at {w : World} {v : Value} {L : List Te} (h : IsT w v L) {k : Nat} {x : Te} (hx : L[k]? = some x) : ∃ b off c, v = .slice (some ⟨b, off, none⟩) L.length c ∧ b < w.heap.size ∧ w.cell? ⟨b, off + k * 3, none⟩ = some (.string x.bd) ∧ w.cell? ⟨b, off + k * 3 + 1, none⟩ = some (.int .i64 x.fr) ∧ w.cell? ⟨b, off + k * 3 + 2, none⟩ = some (.int .i64 x.tt) := by
  obtain ⟨ao, c, rfl, hc, rfl | ⟨b, off, rfl, hb, hL⟩⟩ := h
  · simp at hx
  · exact ⟨b, off, c, rfl, hb, hL k x hx⟩
theorem ownF_len {h : Option Sh} {n : Nd} {T : Tk} (hs : ∀ s, h = some s → ShOk s) (hn : NdOk n) : (ownF h n T).1.length ≤ 16 := by
  cases h with
  | none => simp [ownF]
  | some s =>
    have h1 := propF_len s.fs n.id n.rc
    have h2 := fieldF_len s.fs n.id n.rc T
    have h3 := rErr_len hn.2.1
    have h4 := (hs s rfl).2.1
    simp only [ownF, List.length_append]
    omega
theorem getD_ok {H : ByteArray → Option Sh} (hH : ∀ s h, H s = some h → ShOk h) (s : ByteArray) : ShOk ((H s).getD sh0) := by
  cases h : H s with
  | none => exact ⟨Nat.zero_le _, Nat.zero_le _, by simp [sh0], Nat.zero_le _, by simp [sh0]⟩
  | some x => exact hH s x h
theorem nodeS_len {H : ByteArray → Option Sh} (hH : ∀ s h, H s = some h → ShOk h) (O : Ou) {N : List Nd} (hN : ∀ n ∈ N, NdOk n) : ∀ S : List Ft × Tk, (N.foldl (nodeS H O) S).1.length ≤ S.1.length + N.length * 28 := by
  induction N with
  | nil => intro S; simp
  | cons n r ih =>
    intro S
    simp only [List.foldl_cons, List.length_cons]
    have h1 := ih (fun x hx => hN x (by simp [hx])) (nodeS H O S n)
    have h2 := ownF_len (T := S.2) (fun s hs => hH n.kd s hs) (hN n (by simp))
    have h3 := bondF_len ((H n.kd).getD sh0).bn n.id O
    have h4 := (getD_ok hH n.kd).2.2.2.1
    have h5 : (nodeS H O S n).1.length = S.1.length + (ownF (H n.kd) n S.2).1.length + (bondF ((H n.kd).getD sh0).bn n.id O).length := by simp [nodeS]; omega
    omega
set_option maxHeartbeats 8000000 in
set_option maxRecDepth 100000 in
theorem nodeFaults_any {v vn vt : Value} {H : ByteArray → Option Sh} {X : ByteArray → Option Bd} {N : List Nd} {T : List Te} {w : World} (hp : IsPl w v H X) (hH : ∀ s h, H s = some h → ShOk h) (hN : IsN w vn N) (hT : IsT w vt T) (oN : ∀ n ∈ N, NdOk n) (oT : ∀ t ∈ T, TeOk t) (h60 : N.length ≤ 60) (h120 : T.length ≤ 120) :
    Calls Tryz.prog 120 #[v, .agg #[vn, vt]] w (XPost w (nodeF H (outO T) N)) := by
  have HH : Hid (IsPl w v H X ∧ (∀ s h, H s = some h → ShOk h) ∧ IsN w vn N ∧ IsT w vt T ∧ (∀ n ∈ N, NdOk n) ∧ (∀ t ∈ T, TeOk t)) := ⟨hp, hH, hN, hT, oN, oT⟩
  obtain ⟨b1, b2, rfl, hs, _⟩ := hp
  obtain ⟨an, cn, rfl, _⟩ := hN
  obtain ⟨at', ct, rfl, _⟩ := hT
  have HS : Hid (MapSh w 9 encS b1 H) := hs
  clear hH oN oT hs
  have HN0 : Hid (NSt w #[.map (some b1), .map (some b2)] #[.slice an N.length cn, .slice at' T.length ct] (fun _ => none) (fun _ => none) (((box2 w #[.map (some b1), .map (some b2)] 246 #[.slice an N.length cn, .slice at' T.length ct] 67).alloc (.map #[] 0)).alloc (.map #[] 0))) := by
    have hB : Below w.heap.size w (((box2 w #[.map (some b1), .map (some b2)] 246 #[.slice an N.length cn, .slice at' T.length ct] 67).alloc (.map #[] 0)).alloc (.map #[] 0)) := b_allocKC (b_allocKC (box2_below _ _ _ _ _) (Nat.le_refl _) _) (Nat.le_refl _) _
    have hz : (box2 w #[.map (some b1), .map (some b2)] 246 #[.slice an N.length cn, .slice at' T.length ct] 67).heap.size = w.heap.size + 2 := box2_size _ _ _ _ _
    refine ⟨hB, by simp, ?_, ?_, ?_, ?_⟩
    · exact (Below.heap_alloc _ _ _ (by simp; omega)).trans ((Below.heap_alloc _ _ _ (by simp; omega)).trans ((Below.heap_alloc _ _ _ (by simp)).trans (heap_alloc_new w _)))
    · refine (Below.heap_alloc _ _ _ (by simp)).trans ((Below.heap_alloc _ _ _ (by simp)).trans ?_)
      have := heap_alloc_new (w.alloc (.cells #[.map (some b1), .map (some b2)] 246)) (.cells #[.slice an N.length cn, .slice at' T.length ct] 67)
      rwa [World.size_alloc] at this
    · have := OwnM.made (P := Tryz.prog) (k := 294) (enc := encE) ((box2 w #[.map (some b1), .map (some b2)] 246 #[.slice an N.length cn, .slice at' T.length ct] 67).alloc (.map #[] 0))
      rw [World.size_alloc, hz] at this
      exact this
    · have := OwnM.made (P := Tryz.prog) (k := 359) (enc := encQ) (box2 w #[.map (some b1), .map (some b2)] 246 #[.slice an N.length cn, .slice at' T.length ct] 67)
      rw [hz] at this
      exact this.of_block (Below.heap_alloc _ _ _ (by simp))
  have y1 := cell_atC (i := 1) HN0.out.2.2.2.1 rfl
  unfold box2 at y1
  have hmm := @run_makeMap Tryz.prog
  go_enter Tryz.func120, Tryz.ntmps120
  go_wp2
  go_loopw [17] (fun i wr => ∃ k : Nat, k ≤ T.length ∧ i = .int .i64 k ∧ NSt w #[.map (some b1), .map (some b2)] #[.slice an N.length cn, .slice at' T.length ct] (outO (T.take k)) (fun _ => none) wr ∧ CntOk (outO (T.take k)) k) (fun i _ => T.length - (intOf i).toNat)
  case atStart => exact ⟨0, Nat.zero_le _, rfl, HN0.out, fun x => ⟨Int.le_refl _, Int.le_refl _⟩⟩
  case round =>
    obtain ⟨k, hk, rfl, hSt, hC⟩ := hrel
    have HSt : Hid (NSt w #[.map (some b1), .map (some b2)] #[.slice an N.length cn, .slice at' T.length ct] (outO (T.take k)) (fun _ => none) wr ∧ CntOk (outO (T.take k)) k) := ⟨hSt, hC⟩
    have hws : w.heap.size + 4 ≤ wr.heap.size := hSt.2.1
    clear hSt hC
    by_cases hlt : k < T.length
    · obtain ⟨x, hx⟩ : ∃ x, T[k]? = some x := ⟨T[k], by simp [hlt]⟩
      obtain ⟨b, off, c, hv, hb, e0, e1, e2⟩ := HH.out.2.2.2.1.at hx
      injection hv with hv1 hv2 hv3
      subst hv1 hv3
      clear hv2
      have d0 := (HSt.out.1.1.cell (p := ⟨b, off + k * 3, none⟩) hb).trans e0
      have d1 := (HSt.out.1.1.cell (p := ⟨b, off + k * 3 + 1, none⟩) hb).trans e1
      have d2 := (HSt.out.1.1.cell (p := ⟨b, off + k * 3 + 2, none⟩) hb).trans e2
      have hxm := List.mem_of_getElem? hx
      have hO := outO_take hx
      have hbnd := HSt.out.2 (x.bd, x.fr)
      obtain ⟨kl, hkl⟩ := keyE (x := (x.bd, x.fr)) (HH.out.2.2.2.2.2 x hxm).1 (HH.out.2.2.2.2.2 x hxm).2.1
      have hcs := cnt_step HSt.out.2 x
      rw [← hO] at hcs
      obtain ⟨bd, fr, tt⟩ := x
      simp only at d0 d1 d2 hkl hbnd
      obtain ⟨cc, hcc⟩ : ∃ cc, (outO (T.take k) (bd, fr)).getD 0 = cc := ⟨_, rfl⟩
      rw [hcc] at hbnd
      have hB1 : Below wr.heap.size wr (wr.alloc (.cells #[.string bd, .int .i64 fr, .int .i64 tt] 46)).drew := b_drew (b_allocKC (Below.refl _ _) (Nat.le_refl _) _)
      have hSt1 := HSt.out.1.below hB1
      obtain ⟨w2, w3, n, f1, f2, f3, f4, f5, f6, f7, f8, f9⟩ := entry_more hSt1.2.2.2.2.1 hkl hcc
      have HN : Hid (∃ k' : Nat, k' ≤ T.length ∧ (Value.int .i64 ((k : Int) + 1)) = .int .i64 k' ∧ NSt w #[.map (some b1), .map (some b2)] #[.slice an N.length cn, .slice (some ⟨b, off, none⟩) T.length ct] (outO (T.take k')) (fun _ => none) w3 ∧ CntOk (outO (T.take k')) k') := by
        refine ⟨k + 1, hlt, by simp, ?_, hcs⟩
        refine hSt1.outs f7 ?_
        rw [hO]; unfold outS; rw [hcc]; exact f5
      have o0 : (wr.alloc (.cells #[.string bd, .int .i64 fr, .int .i64 tt] 46)).cell? ⟨wr.heap.size, 0, none⟩ = some (.string bd) := two_new _ _ _ rfl
      have o1 : (wr.alloc (.cells #[.string bd, .int .i64 fr, .int .i64 tt] 46)).cell? ⟨wr.heap.size, 1, none⟩ = some (.int .i64 fr) := two_new _ _ _ rfl
      have p0 := f8.2 _ _ (show (wr.alloc (.cells #[.string bd, .int .i64 fr, .int .i64 tt] 46)).drew.cell? ⟨wr.heap.size, 0, none⟩ = some (.string bd) from o0)
      have p1 := f8.2 _ _ (show (wr.alloc (.cells #[.string bd, .int .i64 fr, .int .i64 tt] 46)).drew.cell? ⟨wr.heap.size, 1, none⟩ = some (.int .i64 fr) from o1)
      have q0 := f9.2 _ _ (show (wr.alloc (.cells #[.string bd, .int .i64 fr, .int .i64 tt] 46)).drew.cell? ⟨wr.heap.size, 0, none⟩ = some (.string bd) from o0)
      have q1 := f9.2 _ _ (show (wr.alloc (.cells #[.string bd, .int .i64 fr, .int .i64 tt] 46)).drew.cell? ⟨wr.heap.size, 1, none⟩ = some (.int .i64 fr) from o1)
      have hwi : IntKind.i64.wrap (cc + 1) = cc + 1 := by rw [IntKind.wrap_i64]; omega
      have hbn : ¬ b = wr.heap.size := by have := HSt.out.1.1.size; omega
      clear hB1 hSt1 f5 f6 f7 f8 f9 e0 e1 e2 hx hxm hO hkl hcs hcc hbnd
      go_wp2
      first | (go_region_held (fun w' => w'.cell? ⟨wr.heap.size, 0, none⟩ = some (.string bd) ∧ w'.cell? ⟨wr.heap.size, 1, none⟩ = some (.int .i64 fr)) (go_keep) (fail)) | fail
      all_goals
        go_wp2
        refine ⟨?_, ?_⟩
        · first | exact HN.out | ((repeat apply Exists.intro); refine ⟨?_, rfl⟩; exact HN.out)
        · simp [intOf]
          try omega
    · obtain rfl : k = T.length := by omega
      rw [List.take_length] at HSt
      obtain ⟨W5, hW5⟩ : ∃ W5, W5 = wr := ⟨wr, rfl⟩
      subst hW5
      have y0 := cell_atC (i := 0) HSt.out.1.2.2.2.1 rfl
      clear hlt
      go_wp2
      go_loopw [9, 35] (fun u i wr => ∃ k : Nat, k ≤ N.length ∧ i = .int .i64 k ∧ NSt w #[.map (some b1), .map (some b2)] #[.slice an N.length cn, .slice at' T.length ct] (outO T) ((N.take k).foldl (nodeS H (outO T)) ([], fun _ => none)).2 wr ∧ OwnX wr (w.heap.size + 4) u ((N.take k).foldl (nodeS H (outO T)) ([], fun _ => none)).1) (fun _ i _ => N.length - (intOf i).toNat)
      case atStart => exact ⟨0, Nat.zero_le _, rfl, HSt.out.1, World.ownsRow_nil _ _ _ _⟩
      case round =>
        obtain ⟨k, hk, rfl, hSt, hX⟩ := hrel
        have HR : Hid (NSt w #[.map (some b1), .map (some b2)] #[.slice an N.length cn, .slice at' T.length ct] (outO T) ((N.take k).foldl (nodeS H (outO T)) ([], fun _ => none)).2 wr ∧ OwnX wr (w.heap.size + 4) u9 ((N.take k).foldl (nodeS H (outO T)) ([], fun _ => none)).1) := ⟨hSt, hX⟩
        have hws2 : w.heap.size + 4 ≤ wr.heap.size := hSt.2.1
        clear hSt hX
        by_cases hlt : k < N.length
        · obtain ⟨x, hx⟩ : ∃ x, N[k]? = some x := ⟨N[k], by simp [hlt]⟩
          obtain ⟨b, off, c, hv, hb, e0, e1, e2, eR⟩ := HH.out.2.2.1.at hx
          injection hv with hv1 hv2 hv3
          subst hv1 hv3
          clear hv2
          have d0 := (HR.out.1.1.cell (p := ⟨b, off + k * 3, none⟩) hb).trans e0
          have d1 := (HR.out.1.1.cell (p := ⟨b, off + k * 3 + 1, none⟩) hb).trans e1
          have d2 := (HR.out.1.1.cell (p := ⟨b, off + k * 3 + 2, none⟩) hb).trans e2
          have HT : Hid (((N.take (k + 1)).foldl (nodeS H (outO T)) ([], fun _ => none)) = nodeS H (outO T) ((N.take k).foldl (nodeS H (outO T)) ([], fun _ => none)) x) := foldl_take _ _ hx
          have HOk : Hid (NdOk x ∧ IsR w x.rv x.rc) := ⟨HH.out.2.2.2.2.1 x (List.mem_of_getElem? hx), eR⟩
          have HLn : Hid (((N.take k).foldl (nodeS H (outO T)) ([], fun _ => none)).1.length ≤ 1680) := by
            have := nodeS_len HH.out.2.1 (outO T) (N := N.take k) (fun n hn => HH.out.2.2.2.2.1 n (List.mem_of_mem_take hn)) ([], fun _ => none)
            simp at this
            show _ ≤ _
            omega
          obtain ⟨id, kd, rv, rc⟩ := x
          obtain ⟨av, cv, hav, _⟩ := eR
          simp only at d0 d1 d2 hav
          subst hav
          have hB1 : Below wr.heap.size wr (wr.alloc (.cells #[.int .i64 id, .string kd, .slice av rc.length cv] 40)) := b_allocKC (Below.refl _ _) (Nat.le_refl _) _
          have HS1 : Hid (NSt w #[.map (some b1), .map (some b2)] #[.slice (some ⟨b, off, none⟩) N.length cn, .slice at' T.length ct] (outO T) ((N.take k).foldl (nodeS H (outO T)) ([], fun _ => none)).2 (wr.alloc (.cells #[.int .i64 id, .string kd, .slice av rc.length cv] 40)) ∧ OwnX (wr.alloc (.cells #[.int .i64 id, .string kd, .slice av rc.length cv] 40)) (w.heap.size + 4) u9 ((N.take k).foldl (nodeS H (outO T)) ([], fun _ => none)).1) := ⟨HR.out.1.below hB1, own_below HR.out.2 hB1⟩
          have c15 := ownFaults_any (n := (⟨id, kd, .slice av rc.length cv, rc⟩ : Nd)) (HH.out.1.on HS1.out.1.1) HH.out.2.1 (HOk.out.2.on HS1.out.1.1) HOk.out.1 HS1.out.1.2.2.2.2.2
          have z0 := cell_atC (i := 0) HS1.out.1.2.2.1 rfl
          have z1 := cell_atC (i := 1) HS1.out.1.2.2.1 rfl
          have x0 : (wr.alloc (.cells #[.int .i64 id, .string kd, .slice av rc.length cv] 40)).cell? ⟨wr.heap.size, 0, none⟩ = some (.int .i64 id) := two_new _ _ _ rfl
          have x1 : (wr.alloc (.cells #[.int .i64 id, .string kd, .slice av rc.length cv] 40)).cell? ⟨wr.heap.size, 1, none⟩ = some (.string kd) := two_new _ _ _ rfl
          have x2 : (wr.alloc (.cells #[.int .i64 id, .string kd, .slice av rc.length cv] 40)).cell? ⟨wr.heap.size, 2, none⟩ = some (.slice av rc.length cv) := two_new _ _ _ rfl
          have HX1 : Hid ((wr.alloc (.cells #[.int .i64 id, .string kd, .slice av rc.length cv] 40)).heap[wr.heap.size]? = some (.cells #[.int .i64 id, .string kd, .slice av rc.length cv] 40 (0, 0))) := heap_alloc_new wr _
          have hbn : ¬ b = wr.heap.size := by have := HR.out.1.1.size; omega
          clear hB1 e0 e1 e2 hx
          go_wp2_with (go_at_call 155; refine c15.mono ?_; rintro e W2 ⟨u1, rfl, hX1, hM1, hG1⟩; refine Hid.out ?_)
          refine Lib.hid ?_
          have hW1 : (wr.alloc (.cells #[.int .i64 id, .string kd, .slice av rc.length cv] 40)).heap.size = wr.heap.size + 1 := World.size_alloc _ _
          have HS2 : Hid (NSt w #[.map (some b1), .map (some b2)] #[.slice (some ⟨b, off, none⟩) N.length cn, .slice at' T.length ct] (outO T) (ownF (H kd) (⟨id, kd, .slice av rc.length cv, rc⟩ : Nd) ((N.take k).foldl (nodeS H (outO T)) ([], fun _ => none)).2).2 W2 ∧ OwnX W2 (w.heap.size + 4) u9 ((N.take k).foldl (nodeS H (outO T)) ([], fun _ => none)).1 ∧ OwnX W2 (wr.alloc (.cells #[.int .i64 id, .string kd, .slice av rc.length cv] 40)).heap.size u1 (ownF (H kd) (⟨id, kd, .slice av rc.length cv, rc⟩ : Nd) ((N.take k).foldl (nodeS H (outO T)) ([], fun _ => none)).2).1 ∧ W2.heap[wr.heap.size]? = some (.cells #[.int .i64 id, .string kd, .slice av rc.length cv] 40 (0, 0)) ∧ ((N.take k).foldl (nodeS H (outO T)) ([], fun _ => none)).1.length + (ownF (H kd) (⟨id, kd, .slice av rc.length cv, rc⟩ : Nd) ((N.take k).foldl (nodeS H (outO T)) ([], fun _ => none)).2).1.length ≤ 100000 ∧ w.heap.size + 4 ≤ W2.heap.size) := by
            have hl := ownF_len (T := ((N.take k).foldl (nodeS H (outO T)) ([], fun _ => none)).2) (fun s hs => HH.out.2.1 kd s hs) HOk.out.1
            have hl2 := HLn.out
            refine ⟨HS1.out.1.take hG1 hM1, own_but HS1.out.2 hG1 (by omega), hX1, (hG1.block _ (by omega) (by simp; omega)).trans HX1.out, by omega, ?_⟩
            have := hG1.size
            omega
          clear c15 hX1 hM1 hG1 z0 z1 x0 x1 x2
          go_wp2_with (at_builtin; refine wpList_appX rfl (.tmp 39) (.tmp 43) rfl rfl rfl HS2.out.2.1 HS2.out.2.2.1 HS2.out.2.2.2.2.1 HS2.out.2.2.2.2.2 ?_; intro v3 w3 hX3 hg3; refine Hid.out ?_)
          refine Lib.hid ?_
          have hrow9 : ∀ g, u9.ownBlock = some g → w.heap.size + 4 ≤ g := fun g hg => (World.ownsRow.lt HS2.out.2.1 g hg).1
          have hrow9' : ∀ g, u9.ownBlock = some g → g < wr.heap.size := fun g hg => (World.ownsRow.lt HR.out.2 g hg).2
          have HS3 : Hid (NSt w #[.map (some b1), .map (some b2)] #[.slice (some ⟨b, off, none⟩) N.length cn, .slice at' T.length ct] (outO T) (ownF (H kd) (⟨id, kd, .slice av rc.length cv, rc⟩ : Nd) ((N.take k).foldl (nodeS H (outO T)) ([], fun _ => none)).2).2 w3 ∧ OwnX w3 (w.heap.size + 4) v3 (((N.take k).foldl (nodeS H (outO T)) ([], fun _ => none)).1 ++ (ownF (H kd) (⟨id, kd, .slice av rc.length cv, rc⟩ : Nd) ((N.take k).foldl (nodeS H (outO T)) ([], fun _ => none)).2).1) ∧ w3.heap[wr.heap.size]? = some (.cells #[.int .i64 id, .string kd, .slice av rc.length cv] 40 (0, 0))) := by
            refine ⟨HS2.out.1.grow hg3 hrow9, hX3, (hg3.block _ ?_ (fun e => ?_)).trans HS2.out.2.2.2.1⟩
            · exact (Array.getElem?_eq_some_iff.1 HS2.out.2.2.2.1).1
            · have := hrow9' _ e.symm; omega
          clear hX3 hg3
          obtain ⟨kl, hkl⟩ := keyS (s := kd) HOk.out.1.2.2.2.1
          obtain ⟨vs, hvs, _, hl⟩ := look_sh (HS.out.on HS3.out.1.1) keyedS encS_inj Tryz.underlying243 hkl
          have c20 := bondFaults_any (n := (⟨id, kd, .slice av rc.length cv, rc⟩ : Nd)) hvs (getD_ok HH.out.2.1 kd).2.2.2.1 (getD_ok HH.out.2.1 kd).2.2.2.2 (HOk.out.2.on HS3.out.1.1) (in64_of (n := id) (by have := HOk.out.1.2.2.2.2.1; simp only at this; omega) (by have := HOk.out.1.2.2.2.2.2; simp only at this; omega)) HS3.out.1.2.2.2.2.1
          simp only [encS] at hl
          have z0 := cell_atC (i := 0) HS3.out.1.2.2.1 rfl
          have z1 := cell_atC (i := 1) HS3.out.1.2.2.1 rfl
          have x0 := cell_atC (i := 0) HS3.out.2.2 rfl
          have x1 := cell_atC (i := 1) HS3.out.2.2 rfl
          have x2 := cell_atC (i := 2) HS3.out.2.2 rfl
          clear hkl hvs
          go_wp2_with (go_at_call 156; refine c20.mono ?_; rintro e W4 ⟨u2, rfl, hX4, hB4⟩; refine Hid.out ?_)
          refine Lib.hid ?_
          have HS4 : Hid (NSt w #[.map (some b1), .map (some b2)] #[.slice (some ⟨b, off, none⟩) N.length cn, .slice at' T.length ct] (outO T) (ownF (H kd) (⟨id, kd, .slice av rc.length cv, rc⟩ : Nd) ((N.take k).foldl (nodeS H (outO T)) ([], fun _ => none)).2).2 W4 ∧ OwnX W4 (w.heap.size + 4) v3 (((N.take k).foldl (nodeS H (outO T)) ([], fun _ => none)).1 ++ (ownF (H kd) (⟨id, kd, .slice av rc.length cv, rc⟩ : Nd) ((N.take k).foldl (nodeS H (outO T)) ([], fun _ => none)).2).1) ∧ OwnX W4 w3.heap.size u2 (bondF ((H kd).getD sh0).bn id (outO T)) ∧ (((N.take k).foldl (nodeS H (outO T)) ([], fun _ => none)).1 ++ (ownF (H kd) (⟨id, kd, .slice av rc.length cv, rc⟩ : Nd) ((N.take k).foldl (nodeS H (outO T)) ([], fun _ => none)).2).1).length + (bondF ((H kd).getD sh0).bn id (outO T)).length ≤ 100000 ∧ w.heap.size + 4 ≤ W4.heap.size) := by
            have hl := ownF_len (T := ((N.take k).foldl (nodeS H (outO T)) ([], fun _ => none)).2) (fun s hs => HH.out.2.1 kd s hs) HOk.out.1
            have hl2 := HLn.out
            have hl3 := bondF_len ((H kd).getD sh0).bn id (outO T)
            have hl4 := (getD_ok HH.out.2.1 kd).2.2.2.1
            have hs4 := HS3.out.1.below hB4
            refine ⟨hs4, own_below HS3.out.2.1 hB4, hX4, ?_, hs4.2.1⟩
            rw [List.length_append]
            omega
          clear c20 hX4 hB4 z0 z1 x0 x1 x2 hl
          go_wp2_with (at_builtin; refine wpList_appX rfl (.tmp 45) (.tmp 53) rfl rfl rfl HS4.out.2.1 HS4.out.2.2.1 HS4.out.2.2.2.1 HS4.out.2.2.2.2 ?_; intro v5 w5 hX5 hg5)
          have HN : Hid (∃ k' : Nat, k' ≤ N.length ∧ (Value.int .i64 ((k : Int) + 1)) = .int .i64 k' ∧ NSt w #[.map (some b1), .map (some b2)] #[.slice (some ⟨b, off, none⟩) N.length cn, .slice at' T.length ct] (outO T) ((N.take k').foldl (nodeS H (outO T)) ([], fun _ => none)).2 w5 ∧ OwnX w5 (w.heap.size + 4) v5 ((N.take k').foldl (nodeS H (outO T)) ([], fun _ => none)).1) := by
            refine ⟨k + 1, hlt, by simp, ?_, ?_⟩
            · rw [HT.out]
              exact HS4.out.1.grow hg5 (fun g hg => (World.ownsRow.lt HS4.out.2.1 g hg).1)
            · rw [HT.out]; exact hX5
          clear hX5 hg5
          go_roundw
          case rel => exact HN.out
          case measure => simp [intOf]; omega
        · obtain rfl : k = N.length := by omega
          have HE : Hid (XPost w (nodeF H (outO T) N) (.returned u9) wr) := ⟨u9, rfl, own_baseC (by have := HR.out.2; rw [List.take_length] at this; exact this) (by omega), HR.out.1.1⟩
          clear hlt
          go_wp2
          go_ret
          exact HE.out
end Go.Proofs.YtahamkajkkkjdaaGreatDoor
