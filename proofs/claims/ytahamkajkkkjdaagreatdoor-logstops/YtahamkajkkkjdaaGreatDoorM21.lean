import Derived.Test.YtahamkajkkkjdaaGreatDoorM20
namespace Go.Proofs.YtahamkajkkkjdaaGreatDoor
open Go.RowKit
open Go.Maps (Keyed)
set_option linter.unusedVariables false
set_option linter.unusedSimpArgs false
def TSt (w : World) (c1 c2 : Array Value) (E : En) (wr : World) : Prop :=
  Below w.heap.size w wr ∧ w.heap.size + 3 ≤ wr.heap.size ∧ wr.heap[w.heap.size]? = some (.cells c1 246 (0, 0)) ∧ wr.heap[w.heap.size + 1]? = some (.cells c2 67 (0, 0)) ∧ ∃ F, OwnM wr Tryz.prog 3 encI (w.heap.size + 2) F ∧ ∀ x, ShR w (F x) (E x)
theorem TSt.grow {w wr w' : World} {c1 c2 : Array Value} {E : En} {r : Option Nat} (h : TSt w c1 c2 E wr) (hg : wr.grownBy w' r) (hr : ∀ g, r = some g → w.heap.size + 3 ≤ g) : TSt w c1 c2 E w' := by
  obtain ⟨h1, h2, h3, h4, F, h5, h6⟩ := h
  have hne : ∀ b, b < w.heap.size + 3 → some b ≠ r := fun b hb e => by have := hr b e.symm; omega
  exact ⟨⟨hg.os.trans h1.os, hg.tape.trans h1.tape, hg.output.trans h1.output, Nat.le_trans h1.size hg.size, fun k hk => (hg.block k (by omega) (hne k (by omega))).trans (h1.block k hk)⟩, Nat.le_trans h2 hg.size, (hg.block _ (by omega) (hne _ (by omega))).trans h3, (hg.block _ (by omega) (hne _ (by omega))).trans h4, F, h5.of_block (hg.block _ (by omega) (hne _ (by omega))), h6⟩
theorem TSt.below {w wr w' : World} {c1 c2 : Array Value} {E : En} (h : TSt w c1 c2 E wr) (hB : Below wr.heap.size wr w') : TSt w c1 c2 E w' := h.grow (but_of_below hB none) (fun g hg => by cases hg)
theorem TSt.put {w wr : World} {c1 c2 : Array Value} {E : En} (h : TSt w c1 c2 E wr) {id : Int} {l : Lit} (hk : keyOf Tryz.prog 3 (encI id) = some l) {v : Value} {s : Sh} (hv : IsSh w v s) :
    ∃ w', (Instr.mapUpdate 297 (.map (some (w.heap.size + 2))) (.int .i64 id) v).run Tryz.prog wr = .ok () w' ∧ TSt w c1 c2 (upd E id s) w' := by
  obtain ⟨h1, h2, h3, h4, F, h5, h6⟩ := h
  obtain ⟨w', r1, r2, hg⟩ := h5.put keyedI encI_inj Tryz.underlying297 hk v
  refine ⟨w', r1, h1.trans (below_but hg (by omega) (by omega)), Nat.le_trans h2 hg.size, (hg.block _ (by omega) (by simp)).trans h3, (hg.block _ (by omega) (by simp)).trans h4, _, r2, fun x => ?_⟩
  unfold upd
  split
  · exact .inr ⟨v, s, rfl, rfl, hv⟩
  · exact h6 x
theorem TSt.look {w wr : World} {c1 c2 : Array Value} {E : En} (h : TSt w c1 c2 E wr) {id : Int} {l : Lit} (hk : keyOf Tryz.prog 3 (encI id) = some l) :
    ∃ v, IsSh wr v ((E id).getD sh0) ∧ (Instr.lookup 297 (.map (some (w.heap.size + 2))) (.int .i64 id) false).run Tryz.prog wr = .ok v wr := by
  obtain ⟨h1, h2, h3, h4, F, h5, h6⟩ := h
  obtain ⟨v, r1, _, r2⟩ := look_sh (H := E) ⟨F, h5, fun x => (h6 x).on h1⟩ keyedI encI_inj Tryz.underlying297 hk
  exact ⟨v, r1, r2⟩
theorem endO_take {H : ByteArray → Option Sh} {N : List Nd} {k : Nat} {x : Nd} (h : N[k]? = some x) : endO H (N.take (k + 1)) = upd (endO H (N.take k)) x.id ((H x.kd).getD sh0) := foldl_take _ _ h
theorem endO_ok {H : ByteArray → Option Sh} (hH : ∀ s h, H s = some h → ShOk h) (N : List Nd) : ∀ E : En, (∀ x, ShOk ((E x).getD sh0)) → ∀ x, ShOk (((N.foldl (endS H) E) x).getD sh0) := by
  induction N with
  | nil => intro E h x; exact h x
  | cons n r ih =>
    intro E h x
    simp only [List.foldl_cons]
    refine ih (endS H E n) (fun y => ?_) x
    unfold endS upd
    split
    · exact getD_ok hH n.kd
    · exact h y
theorem tieS_len (X : ByteArray → Option Bd) (E : En) (l : List Ft) (t : Te) : (tieS X E l t).length ≤ l.length + 1 := by
  unfold tieS; split
  · simp
  · split <;> simp
theorem tieF_len (X : ByteArray → Option Bd) (E : En) (T : List Te) : (tieF X E T).length ≤ T.length := by
  have := fold_len (tieS X E) (tieS_len X E) T []
  simpa [tieF] using this
theorem tieS_none {X : ByteArray → Option Bd} {E : En} {l : List Ft} {t : Te} (h : X t.bd = none) : tieS X E l t = l ++ [⟨5, t.fr, t.bd⟩] := by unfold tieS; rw [h]
theorem tieS_bad {X : ByteArray → Option Bd} {E : En} {l : List Ft} {t : Te} {x : Bd} (h : X t.bd = some x) (hb : badE E t x = true) : tieS X E l t = l ++ [⟨6, t.fr, t.bd⟩] := by unfold tieS; rw [h]; simp only; rw [if_pos hb]
theorem tieS_ok {X : ByteArray → Option Bd} {E : En} {l : List Ft} {t : Te} {x : Bd} (h : X t.bd = some x) (hb : badE E t x = false) : tieS X E l t = l := by unfold tieS; rw [h]; simp only; rw [if_neg (by rw [hb]; decide)]
theorem size1 (w : World) (a : Obj) : w.heap.size ≤ (w.alloc a).heap.size := by simp
theorem new_at0 (w : World) (f : Ft) : ∀ j u, f.cells[j]? = some u → (w.alloc (.cells #[.int .i64 f.wh, .int .i64 f.id, .string f.nm] 300)).cell? ((⟨w.heap.size, 0, none⟩ : Addr).add j) = some u := new_atC w f.cells 300
theorem tie_fault {w wr W w1 : World} {c1 c2 : Array Value} {E : En} {X : ByteArray → Option Bd} {T : List Te} {k : Nat} {u v1 : Value} {f : Ft} {o : Obj} (hlt : k < T.length) (h1 : TSt w c1 c2 E wr) (h2 : OwnX wr (w.heap.size + 3) u ((T.take k).foldl (tieS X E) [])) (hB : Below wr.heap.size wr W)
    (hS : (T.take (k + 1)).foldl (tieS X E) [] = (T.take k).foldl (tieS X E) [] ++ [f]) (hown : w1.ownsRow (w.heap.size + 3) 300 3 v1 (((T.take k).foldl (tieS X E) []).length + 1) (cellsX ((T.take k).foldl (tieS X E) []) ++ f.cells)) (hg : (W.alloc o).grownBy w1 u.ownBlock) :
    ∃ k' : Nat, k' ≤ T.length ∧ (Value.int .i64 ((k : Int) + 1)) = .int .i64 k' ∧ TSt w c1 c2 E w1 ∧ OwnX w1 (w.heap.size + 3) v1 ((T.take k').foldl (tieS X E) []) := by
  refine ⟨k + 1, hlt, by simp, (h1.below (b_allocKC hB (Nat.le_refl _) o)).grow hg (fun g hg' => (h2.lt g hg').1), ?_⟩
  rw [hS]; unfold OwnX; rw [cellsX_snoc, List.length_append]; exact hown
set_option maxHeartbeats 8000000 in
set_option maxRecDepth 100000 in
theorem tieFaults_any {v vn vt : Value} {H : ByteArray → Option Sh} {X : ByteArray → Option Bd} {N : List Nd} {T : List Te} {w : World} (hp : IsPl w v H X) (hH : ∀ s h, H s = some h → ShOk h) (hN : IsN w vn N) (hT : IsT w vt T) (oN : ∀ n ∈ N, NdOk n) (oT : ∀ t ∈ T, TeOk t) (h60 : N.length ≤ 60) (h120 : T.length ≤ 120) :
    Calls Tryz.prog 121 #[v, .agg #[vn, vt]] w (XPost w (tieF X (endO H N) T)) := by
  obtain ⟨i0, hi0, hz0, hz1, hz2⟩ := info_parts infoX
  have HH : Hid ((∀ s h, H s = some h → ShOk h) ∧ IsN w vn N ∧ IsT w vt T ∧ (∀ n ∈ N, NdOk n) ∧ (∀ t ∈ T, TeOk t)) := ⟨hH, hN, hT, oN, oT⟩
  have HEk : Hid (∀ x, ((endO H N x).getD sh0).kn.length ≤ 1000) := fun x => (endO_ok hH N (fun _ => none) (fun _ => ⟨Nat.zero_le _, Nat.zero_le _, by simp [sh0], Nat.zero_le _, by simp [sh0]⟩) x).1
  obtain ⟨b1, b2, rfl, hs, hbm⟩ := hp
  obtain ⟨an, cn, rfl, _⟩ := hN
  obtain ⟨at', ct, rfl, _⟩ := hT
  have HS : Hid (MapSh w 9 encS b1 H ∧ MapBd w b2 X) := ⟨hs, hbm⟩
  clear hH oN oT hs hbm
  have HN0 : Hid (TSt w #[.map (some b1), .map (some b2)] #[.slice an N.length cn, .slice at' T.length ct] (fun _ => none) ((box2 w #[.map (some b1), .map (some b2)] 246 #[.slice an N.length cn, .slice at' T.length ct] 67).alloc (.map #[] 0))) := by
    have hB : Below w.heap.size w ((box2 w #[.map (some b1), .map (some b2)] 246 #[.slice an N.length cn, .slice at' T.length ct] 67).alloc (.map #[] 0)) := b_allocKC (box2_below _ _ _ _ _) (Nat.le_refl _) _
    have hz : (box2 w #[.map (some b1), .map (some b2)] 246 #[.slice an N.length cn, .slice at' T.length ct] 67).heap.size = w.heap.size + 2 := box2_size _ _ _ _ _
    refine ⟨hB, by simp, ?_, ?_, fun _ => none, ?_, fun x => .inl ⟨rfl, rfl⟩⟩
    · exact (Below.heap_alloc _ _ _ (by simp; omega)).trans ((Below.heap_alloc _ _ _ (by simp)).trans (heap_alloc_new w _))
    · refine (Below.heap_alloc _ _ _ (by simp)).trans ?_
      have := heap_alloc_new (w.alloc (.cells #[.map (some b1), .map (some b2)] 246)) (.cells #[.slice an N.length cn, .slice at' T.length ct] 67)
      rwa [World.size_alloc] at this
    · have := OwnM.made (P := Tryz.prog) (k := 3) (enc := encI) (box2 w #[.map (some b1), .map (some b2)] 246 #[.slice an N.length cn, .slice at' T.length ct] 67)
      rw [hz] at this
      exact this
  have y0 := cell_atC (i := 0) HN0.out.2.2.2.1 rfl
  unfold box2 at y0
  have hmm := @run_makeMap Tryz.prog
  go_enter Tryz.func121, Tryz.ntmps121
  go_wp2
  go_loopw [17] (fun i wr => ∃ k : Nat, k ≤ N.length ∧ i = .int .i64 k ∧ TSt w #[.map (some b1), .map (some b2)] #[.slice an N.length cn, .slice at' T.length ct] (endO H (N.take k)) wr) (fun i _ => N.length - (intOf i).toNat)
  case atStart => exact ⟨0, Nat.zero_le _, rfl, HN0.out⟩
  case round =>
    obtain ⟨k, hk, rfl, hSt⟩ := hrel
    have HSt : Hid (TSt w #[.map (some b1), .map (some b2)] #[.slice an N.length cn, .slice at' T.length ct] (endO H (N.take k)) wr) := hSt
    have hws : w.heap.size + 3 ≤ wr.heap.size := hSt.2.1
    clear hSt
    by_cases hlt : k < N.length
    · obtain ⟨x, hx⟩ : ∃ x, N[k]? = some x := ⟨N[k], by simp [hlt]⟩
      obtain ⟨b, off, c, hv, hb, e0, e1, e2, eR⟩ := HH.out.2.1.at hx
      injection hv with hv1 hv2 hv3
      subst hv1 hv3
      clear hv2
      have d0 := (HSt.out.1.cell (p := ⟨b, off + k * 3, none⟩) hb).trans e0
      have d1 := (HSt.out.1.cell (p := ⟨b, off + k * 3 + 1, none⟩) hb).trans e1
      have d2 := (HSt.out.1.cell (p := ⟨b, off + k * 3 + 2, none⟩) hb).trans e2
      have hO := endO_take (H := H) hx
      obtain ⟨_, _, _, n4, n5, n6⟩ := HH.out.2.2.2.1 x (List.mem_of_getElem? hx)
      obtain ⟨id, kd, rv, rc⟩ := x
      obtain ⟨av, cv, hav, _⟩ := eR
      simp only at d0 d1 d2 hav hO n4 n5 n6
      subst hav
      have hB1 : Below wr.heap.size wr (wr.alloc (.cells #[.int .i64 id, .string kd, .slice av rc.length cv] 40)) := b_allocKC (Below.refl _ _) (Nat.le_refl _) _
      have hS1 := HSt.out.below hB1
      obtain ⟨kl, hkl⟩ := keyS (s := kd) n4
      obtain ⟨F1, hF1, hF2⟩ := HS.out.1
      have hl := (hF1.of_block (hS1.1.block _ hF1.lt)).look keyedS encS_inj Tryz.underlying243 (zero76 _) hkl false
      simp only [Bool.false_eq_true, if_false, encS] at hl
      have hsh := (hF2 kd).getD
      obtain ⟨vv, hvv⟩ : ∃ vv, vv = (F1 kd).getD (.agg #[.slice none 0 0, .slice none 0 0, .slice none 0 0]) := ⟨_, rfl⟩
      rw [← hvv] at hl hsh
      obtain ⟨k2, hk2⟩ := keyI (n := id) (in64_of (by omega) (by omega))
      obtain ⟨w4, hrun, hput⟩ := hS1.put hk2 hsh
      have HN : Hid (∃ k' : Nat, k' ≤ N.length ∧ (Value.int .i64 ((k : Int) + 1)) = .int .i64 k' ∧ TSt w #[.map (some b1), .map (some b2)] #[.slice (some ⟨b, off, none⟩) N.length cn, .slice at' T.length ct] (endO H (N.take k')) w4) := ⟨k + 1, hlt, by simp, by rw [hO]; exact hput⟩
      have z0 := cell_atC (i := 0) hS1.2.2.1 rfl
      have x0 : (wr.alloc (.cells #[.int .i64 id, .string kd, .slice av rc.length cv] 40)).cell? ⟨wr.heap.size, 0, none⟩ = some (.int .i64 id) := two_new _ _ _ rfl
      have x1 : (wr.alloc (.cells #[.int .i64 id, .string kd, .slice av rc.length cv] 40)).cell? ⟨wr.heap.size, 1, none⟩ = some (.string kd) := two_new _ _ _ rfl
      have hbn : ¬ b = wr.heap.size := by have := HSt.out.1.size; omega
      clear hB1 hS1 hkl hF1 hF2 hsh hvv hk2 hput e0 e1 e2 hx hO n4 n5 n6
      go_wp2
      go_roundw
      case rel => exact HN.out
      case measure => simp [intOf]; omega
    · obtain rfl : k = N.length := by omega
      rw [List.take_length] at HSt
      obtain ⟨W5, hW5⟩ : ∃ W5, W5 = wr := ⟨wr, rfl⟩
      subst hW5
      have y1 := cell_atC (i := 1) HSt.out.2.2.2.1 rfl
      clear hlt
      go_wp2
      go_loopw [8, 33] (fun u i wr => ∃ k : Nat, k ≤ T.length ∧ i = .int .i64 k ∧ TSt w #[.map (some b1), .map (some b2)] #[.slice an N.length cn, .slice at' T.length ct] (endO H N) wr ∧ OwnX wr (w.heap.size + 3) u ((T.take k).foldl (tieS X (endO H N)) [])) (fun _ i _ => T.length - (intOf i).toNat)
      case atStart => exact ⟨0, Nat.zero_le _, rfl, HSt.out, World.ownsRow_nil _ _ _ _⟩
      case round =>
        obtain ⟨k, hk, rfl, hSt, hX⟩ := hrel
        have HR : Hid (TSt w #[.map (some b1), .map (some b2)] #[.slice an N.length cn, .slice at' T.length ct] (endO H N) wr ∧ OwnX wr (w.heap.size + 3) u8 ((T.take k).foldl (tieS X (endO H N)) [])) := ⟨hSt, hX⟩
        have hws2 : w.heap.size + 3 ≤ wr.heap.size := hSt.2.1
        clear hSt hX
        by_cases hlt : k < T.length
        · obtain ⟨x, hx⟩ : ∃ x, T[k]? = some x := ⟨T[k], by simp [hlt]⟩
          obtain ⟨b, off, c, hv, hb, e0, e1, e2⟩ := HH.out.2.2.1.at hx
          injection hv with hv1 hv2 hv3
          subst hv1 hv3
          clear hv2
          have d0 := (HR.out.1.1.cell (p := ⟨b, off + k * 3, none⟩) hb).trans e0
          have d1 := (HR.out.1.1.cell (p := ⟨b, off + k * 3 + 1, none⟩) hb).trans e1
          have d2 := (HR.out.1.1.cell (p := ⟨b, off + k * 3 + 2, none⟩) hb).trans e2
          have HT : Hid (((T.take (k + 1)).foldl (tieS X (endO H N)) []) = tieS X (endO H N) ((T.take k).foldl (tieS X (endO H N)) []) x) := foldl_take _ _ hx
          obtain ⟨o1, o2, o3⟩ := HH.out.2.2.2.2 x (List.mem_of_getElem? hx)
          have HL : Hid (((T.take k).foldl (tieS X (endO H N)) []).length ≤ 120) := by
            have := tieF_len X (endO H N) (T.take k)
            simp [tieF] at this
            show _ ≤ _
            omega
          obtain ⟨bd, fr, tt⟩ := x
          simp only at d0 d1 d2 o1 o2 o3
          have hB1 : Below wr.heap.size wr (wr.alloc (.cells #[.string bd, .int .i64 fr, .int .i64 tt] 46)) := b_allocKC (Below.refl _ _) (Nat.le_refl _) _
          obtain ⟨kl, hkl⟩ := keyS (s := bd) o1
          have hl := OwnM.look ((HS.out.2.on HR.out.1.1).on hB1) keyedS encS_inj Tryz.underlying244 (zero72 _) hkl true
          have HS1 : Hid (TSt w #[.map (some b1), .map (some b2)] #[.slice an N.length cn, .slice (some ⟨b, off, none⟩) T.length ct] (endO H N) (wr.alloc (.cells #[.string bd, .int .i64 fr, .int .i64 tt] 46))) := HR.out.1.below hB1
          have z1 := cell_atC (i := 1) HS1.out.2.2.1 rfl
          have x0 : (wr.alloc (.cells #[.string bd, .int .i64 fr, .int .i64 tt] 46)).cell? ⟨wr.heap.size, 0, none⟩ = some (.string bd) := two_new _ _ _ rfl
          have hbn : ¬ b = wr.heap.size := by have := HR.out.1.1.size; omega
          obtain ⟨kf, hkf⟩ := keyI o2
          obtain ⟨kt, hkt⟩ := keyI o3
          have HKt : Hid (keyOf Tryz.prog 3 (encI tt) = some kt) := hkt
          clear e0 e1 e2 hx hkl hkt
          cases hX : X bd with
          | none =>
            simp only [if_true, encS, hX, Option.map_none, Option.getD_none, Option.isSome_none] at hl
            have HBw : Hid (Below wr.heap.size wr ((wr.alloc (.cells #[.string bd, .int .i64 fr, .int .i64 tt] 46)).alloc (.cells #[.string ⟨#[]⟩, .string ⟨#[]⟩, .string ⟨#[]⟩, .int .i64 0, .int .i64 0] 54))) := b_allocKC hB1 (Nat.le_refl _) _
            have x0' : ((wr.alloc (.cells #[.string bd, .int .i64 fr, .int .i64 tt] 46)).alloc (.cells #[.string ⟨#[]⟩, .string ⟨#[]⟩, .string ⟨#[]⟩, .int .i64 0, .int .i64 0] 54)).cell? ⟨wr.heap.size, 0, none⟩ = some (.string bd) := ((b_allocKC (Below.refl _ (wr.alloc (.cells #[.string bd, .int .i64 fr, .int .i64 tt] 46))) (Nat.le_refl _) _).cell (by simp)).trans x0
            have x1' : ((wr.alloc (.cells #[.string bd, .int .i64 fr, .int .i64 tt] 46)).alloc (.cells #[.string ⟨#[]⟩, .string ⟨#[]⟩, .string ⟨#[]⟩, .int .i64 0, .int .i64 0] 54)).cell? ⟨wr.heap.size, 1, none⟩ = some (.int .i64 fr) := ((b_allocKC (Below.refl _ (wr.alloc (.cells #[.string bd, .int .i64 fr, .int .i64 tt] 46))) (Nat.le_refl _) _).cell (by simp)).trans (two_new _ _ _ rfl)
            have HX : Hid (OwnX ((wr.alloc (.cells #[.string bd, .int .i64 fr, .int .i64 tt] 46)).alloc (.cells #[.string ⟨#[]⟩, .string ⟨#[]⟩, .string ⟨#[]⟩, .int .i64 0, .int .i64 0] 54)) (w.heap.size + 3) u8 ((T.take k).foldl (tieS X (endO H N)) []) ∧ ((T.take k).foldl (tieS X (endO H N)) []).length + 1 ≤ maxLen ∧ (((T.take k).foldl (tieS X (endO H N)) []).length + 1) * 32 ≤ 140737488355328 ∧ w.heap.size + 3 ≤ ((wr.alloc (.cells #[.string bd, .int .i64 fr, .int .i64 tt] 46)).alloc (.cells #[.string ⟨#[]⟩, .string ⟨#[]⟩, .string ⟨#[]⟩, .int .i64 0, .int .i64 0] 54)).heap.size) := ⟨own_below HR.out.2 HBw.out, by have := HL.out; unfold maxLen; omega, by have := HL.out; omega, Nat.le_trans hws2 HBw.out.size⟩
            have HSt : Hid (((T.take (k + 1)).foldl (tieS X (endO H N)) []) = ((T.take k).foldl (tieS X (endO H N)) []) ++ [⟨5, fr, bd⟩]) := by
              show _ = _
              rw [HT.out]; exact tieS_none hX
            clear hB1 hX
            go_wp2_with (at_builtin; refine wpList_append_own _ rfl (.tmp 48) (.tmp 54) 188 rfl (w.heap.size + 3) 300 i0 _ 3 32 Tryz.underlying188 hi0 hz0 hz1 hz2 rfl (by decide) u8 ((T.take k).foldl (tieS X (endO H N)) []).length (cellsX ((T.take k).foldl (tieS X (endO H N)) [])) rfl (HX.out.1.alloc _) ⟨wr.heap.size + 1 + 1, 0, none⟩ 1 1 (Ft.mk 5 fr bd).cells rfl rfl (new_at2 wr _ _ _) (ft_one _) HX.out.2.1 HX.out.2.2.1 (Nat.le_trans HX.out.2.2.2 (size1 _ _)) ?_; intro v1 w1 hown1 hgrow1 _)
            have HN : Hid (∃ k' : Nat, k' ≤ T.length ∧ (Value.int .i64 ((k : Int) + 1)) = .int .i64 k' ∧ TSt w #[.map (some b1), .map (some b2)] #[.slice an N.length cn, .slice (some ⟨b, off, none⟩) T.length ct] (endO H N) w1 ∧ OwnX w1 (w.heap.size + 3) v1 ((T.take k').foldl (tieS X (endO H N)) [])) := tie_fault hlt HR.out.1 HR.out.2 HBw.out HSt.out hown1 hgrow1
            clear hown1 hgrow1
            go_roundw
            case rel => exact HN.out
            case measure => simp [intOf]; omega
          | some x =>
            simp only [if_true, encS, hX, Option.map_some, Option.getD_some, Option.isSome_some] at hl
            have hB2 : Below wr.heap.size wr ((wr.alloc (.cells #[.string bd, .int .i64 fr, .int .i64 tt] 46)).alloc (.cells #[.string (bs x.nm), .string (bs x.fr), .string (bs x.tt), .int .i64 x.mn, .int .i64 x.mx] 54)) := b_allocKC hB1 (Nat.le_refl _) _
            have hBx : Below (wr.alloc (.cells #[.string bd, .int .i64 fr, .int .i64 tt] 46)).heap.size (wr.alloc (.cells #[.string bd, .int .i64 fr, .int .i64 tt] 46)) ((wr.alloc (.cells #[.string bd, .int .i64 fr, .int .i64 tt] 46)).alloc (.cells #[.string (bs x.nm), .string (bs x.fr), .string (bs x.tt), .int .i64 x.mn, .int .i64 x.mx] 54)) := b_allocKC (Below.refl _ _) (Nat.le_refl _) _
            have HB2 : Hid (Below wr.heap.size wr ((wr.alloc (.cells #[.string bd, .int .i64 fr, .int .i64 tt] 46)).alloc (.cells #[.string (bs x.nm), .string (bs x.fr), .string (bs x.tt), .int .i64 x.mn, .int .i64 x.mx] 54))) := hB2
            have hS2 := HR.out.1.below hB2
            have x0' : ((wr.alloc (.cells #[.string bd, .int .i64 fr, .int .i64 tt] 46)).alloc (.cells #[.string (bs x.nm), .string (bs x.fr), .string (bs x.tt), .int .i64 x.mn, .int .i64 x.mx] 54)).cell? ⟨wr.heap.size, 0, none⟩ = some (.string bd) := (hBx.cell (by simp)).trans x0
            have x1' : ((wr.alloc (.cells #[.string bd, .int .i64 fr, .int .i64 tt] 46)).alloc (.cells #[.string (bs x.nm), .string (bs x.fr), .string (bs x.tt), .int .i64 x.mn, .int .i64 x.mx] 54)).cell? ⟨wr.heap.size, 1, none⟩ = some (.int .i64 fr) := (hBx.cell (by simp)).trans (two_new _ _ _ rfl)
            have x2' : ((wr.alloc (.cells #[.string bd, .int .i64 fr, .int .i64 tt] 46)).alloc (.cells #[.string (bs x.nm), .string (bs x.fr), .string (bs x.tt), .int .i64 x.mn, .int .i64 x.mx] 54)).cell? ⟨wr.heap.size, 2, none⟩ = some (.int .i64 tt) := (hBx.cell (by simp)).trans (two_new _ _ _ rfl)
            have hn2 : ((wr.alloc (.cells #[.string bd, .int .i64 fr, .int .i64 tt] 46)).alloc (.cells #[.string (bs x.nm), .string (bs x.fr), .string (bs x.tt), .int .i64 x.mn, .int .i64 x.mx] 54)).heap[wr.heap.size + 1]? = some (.cells #[.string (bs x.nm), .string (bs x.fr), .string (bs x.tt), .int .i64 x.mn, .int .i64 x.mx] 54 (0, 0)) := by
              have := heap_alloc_new (wr.alloc (.cells #[.string bd, .int .i64 fr, .int .i64 tt] 46)) (.cells #[.string (bs x.nm), .string (bs x.fr), .string (bs x.tt), .int .i64 x.mn, .int .i64 x.mx] 54)
              rwa [World.size_alloc] at this
            have b1' := cell_atC (i := 1) hn2 rfl
            have HC : Hid (((wr.alloc (.cells #[.string bd, .int .i64 fr, .int .i64 tt] 46)).alloc (.cells #[.string (bs x.nm), .string (bs x.fr), .string (bs x.tt), .int .i64 x.mn, .int .i64 x.mx] 54)).cell? ⟨wr.heap.size, 0, none⟩ = some (.string bd) ∧ ((wr.alloc (.cells #[.string bd, .int .i64 fr, .int .i64 tt] 46)).alloc (.cells #[.string (bs x.nm), .string (bs x.fr), .string (bs x.tt), .int .i64 x.mn, .int .i64 x.mx] 54)).cell? ⟨wr.heap.size, 1, none⟩ = some (.int .i64 fr) ∧ ((wr.alloc (.cells #[.string bd, .int .i64 fr, .int .i64 tt] 46)).alloc (.cells #[.string (bs x.nm), .string (bs x.fr), .string (bs x.tt), .int .i64 x.mn, .int .i64 x.mx] 54)).cell? ⟨wr.heap.size, 2, none⟩ = some (.int .i64 tt) ∧ ((wr.alloc (.cells #[.string bd, .int .i64 fr, .int .i64 tt] 46)).alloc (.cells #[.string (bs x.nm), .string (bs x.fr), .string (bs x.tt), .int .i64 x.mn, .int .i64 x.mx] 54)).heap[wr.heap.size + 1]? = some (.cells #[.string (bs x.nm), .string (bs x.fr), .string (bs x.tt), .int .i64 x.mn, .int .i64 x.mx] 54 (0, 0)) ∧ ((wr.alloc (.cells #[.string bd, .int .i64 fr, .int .i64 tt] 46)).alloc (.cells #[.string (bs x.nm), .string (bs x.fr), .string (bs x.tt), .int .i64 x.mn, .int .i64 x.mx] 54)).heap.size = wr.heap.size + 2) := ⟨x0', x1', x2', hn2, by simp⟩
            obtain ⟨v1, hv1, hl1⟩ := hS2.look hkf
            obtain ⟨q1, q2, q3, rfl, s1, s2, s3⟩ := hv1
            have cI := is_any (w := ((wr.alloc (.cells #[.string bd, .int .i64 fr, .int .i64 tt] 46)).alloc (.cells #[.string (bs x.nm), .string (bs x.fr), .string (bs x.tt), .int .i64 x.mn, .int .i64 x.mx] 54))) (v := .agg #[q1, q2, q3]) ⟨q1, q2, q3, rfl, s1, s2, s3⟩ (HEk.out fr) x.fr
            have HX : Hid (X bd = some x) := hX
            clear hB1 hB2 hBx hn2 s1 s2 s3 hX hkf hS2
            cases hq : hasN ((endO H N fr).getD sh0).kn x.fr
            · rw [hq] at cI
              have HSt : Hid (((T.take (k + 1)).foldl (tieS X (endO H N)) []) = ((T.take k).foldl (tieS X (endO H N)) []) ++ [⟨6, fr, bd⟩]) := by
                show _ = _
                rw [HT.out]; exact tieS_bad HX.out (by unfold badE; simp only; rw [hq]; rfl)
              clear hq
              go_wp2_with (go_at_call 157; refine cI.mono ?_; rintro e W3 ⟨rfl, hB3⟩; refine Hid.out ?_)
              refine Lib.hid ?_
              have HBw : Hid (Below wr.heap.size wr W3) := on1KC HB2.out hB3 (Nat.le_refl _)
              have t0 := (hB3.cell (p := ⟨wr.heap.size, 0, none⟩) (by rw [HC.out.2.2.2.2]; simp)).trans HC.out.1
              have t1 := (hB3.cell (p := ⟨wr.heap.size, 1, none⟩) (by rw [HC.out.2.2.2.2]; simp)).trans HC.out.2.1
              have HX : Hid (OwnX W3 (w.heap.size + 3) u8 ((T.take k).foldl (tieS X (endO H N)) []) ∧ ((T.take k).foldl (tieS X (endO H N)) []).length + 1 ≤ maxLen ∧ (((T.take k).foldl (tieS X (endO H N)) []).length + 1) * 32 ≤ 140737488355328 ∧ w.heap.size + 3 ≤ W3.heap.size) := ⟨own_below HR.out.2 HBw.out, by have := HL.out; unfold maxLen; omega, by have := HL.out; omega, Nat.le_trans hws2 HBw.out.size⟩
              clear cI hB3
              go_wp2_with (at_builtin; refine wpList_append_own _ rfl (.tmp 75) (.tmp 81) 188 rfl (w.heap.size + 3) 300 i0 _ 3 32 Tryz.underlying188 hi0 hz0 hz1 hz2 rfl (by decide) u8 ((T.take k).foldl (tieS X (endO H N)) []).length (cellsX ((T.take k).foldl (tieS X (endO H N)) [])) rfl (HX.out.1.alloc _) ⟨W3.heap.size, 0, none⟩ 1 1 (Ft.mk 6 fr bd).cells rfl rfl (new_at0 _ _) (ft_one _) HX.out.2.1 HX.out.2.2.1 (Nat.le_trans HX.out.2.2.2 (size1 _ _)) ?_; intro v1 w1 hown1 hgrow1 _)
              have HN : Hid (∃ k' : Nat, k' ≤ T.length ∧ (Value.int .i64 ((k : Int) + 1)) = .int .i64 k' ∧ TSt w #[.map (some b1), .map (some b2)] #[.slice an N.length cn, .slice (some ⟨b, off, none⟩) T.length ct] (endO H N) w1 ∧ OwnX w1 (w.heap.size + 3) v1 ((T.take k').foldl (tieS X (endO H N)) [])) := tie_fault hlt HR.out.1 HR.out.2 HBw.out HSt.out hown1 hgrow1
              clear hown1 hgrow1
              go_roundw
              case rel => exact HN.out
              case measure => simp [intOf]; omega
            · rw [hq] at cI
              have HQ : Hid (hasN ((endO H N fr).getD sh0).kn x.fr = true) := hq
              clear hq
              go_wp2_with (go_at_call 157; refine cI.mono ?_; rintro e W3 ⟨rfl, hB3⟩; refine Hid.out ?_)
              refine Lib.hid ?_
              have HB3 : Hid (Below wr.heap.size wr W3) := on1KC HB2.out hB3 (Nat.le_refl _)
              have hS3 := HR.out.1.below HB3.out
              have t0 := (hB3.cell (p := ⟨wr.heap.size, 0, none⟩) (by rw [HC.out.2.2.2.2]; simp)).trans HC.out.1
              have t1 := (hB3.cell (p := ⟨wr.heap.size, 1, none⟩) (by rw [HC.out.2.2.2.2]; simp)).trans HC.out.2.1
              have t2 := (hB3.cell (p := ⟨wr.heap.size, 2, none⟩) (by rw [HC.out.2.2.2.2]; simp)).trans HC.out.2.2.1
              have hn3 := (hB3.block _ (by rw [HC.out.2.2.2.2]; omega)).trans HC.out.2.2.2.1
              have b2' := cell_atC (i := 2) hn3 rfl
              have HT3 : Hid (W3.cell? ⟨wr.heap.size, 0, none⟩ = some (.string bd) ∧ W3.cell? ⟨wr.heap.size, 1, none⟩ = some (.int .i64 fr) ∧ wr.heap.size < W3.heap.size) := ⟨t0, t1, by have := hB3.size; rw [HC.out.2.2.2.2] at this; omega⟩
              obtain ⟨v2, hv2, hl2⟩ := hS3.look HKt.out
              obtain ⟨r1, r2, r3, rfl, s1, s2, s3⟩ := hv2
              have cJ := is_any (w := W3) (v := .agg #[r1, r2, r3]) ⟨r1, r2, r3, rfl, s1, s2, s3⟩ (HEk.out tt) x.tt
              clear cI hB3 hn3 s1 s2 s3 hS3
              cases hq : hasN ((endO H N tt).getD sh0).kn x.tt
              · rw [hq] at cJ
                have HSt : Hid (((T.take (k + 1)).foldl (tieS X (endO H N)) []) = ((T.take k).foldl (tieS X (endO H N)) []) ++ [⟨6, fr, bd⟩]) := by
                  show _ = _
                  rw [HT.out]; exact tieS_bad HX.out (by unfold badE; simp only; rw [HQ.out, hq]; rfl)
                clear hq
                go_wp2_with (go_at_call 157; refine cJ.mono ?_; rintro e W4 ⟨rfl, hB4⟩; refine Hid.out ?_)
                refine Lib.hid ?_
                have HBw : Hid (Below wr.heap.size wr W4) := on1KC HB3.out hB4 (Nat.le_refl _)
                have w0 := (hB4.cell (p := ⟨wr.heap.size, 0, none⟩) HT3.out.2.2).trans HT3.out.1
                have w1' := (hB4.cell (p := ⟨wr.heap.size, 1, none⟩) HT3.out.2.2).trans HT3.out.2.1
                have HX : Hid (OwnX W4 (w.heap.size + 3) u8 ((T.take k).foldl (tieS X (endO H N)) []) ∧ ((T.take k).foldl (tieS X (endO H N)) []).length + 1 ≤ maxLen ∧ (((T.take k).foldl (tieS X (endO H N)) []).length + 1) * 32 ≤ 140737488355328 ∧ w.heap.size + 3 ≤ W4.heap.size) := ⟨own_below HR.out.2 HBw.out, by have := HL.out; unfold maxLen; omega, by have := HL.out; omega, Nat.le_trans hws2 HBw.out.size⟩
                clear cJ hB4
                go_wp2_with (at_builtin; refine wpList_append_own _ rfl (.tmp 75) (.tmp 81) 188 rfl (w.heap.size + 3) 300 i0 _ 3 32 Tryz.underlying188 hi0 hz0 hz1 hz2 rfl (by decide) u8 ((T.take k).foldl (tieS X (endO H N)) []).length (cellsX ((T.take k).foldl (tieS X (endO H N)) [])) rfl (HX.out.1.alloc _) ⟨W4.heap.size, 0, none⟩ 1 1 (Ft.mk 6 fr bd).cells rfl rfl (new_at0 _ _) (ft_one _) HX.out.2.1 HX.out.2.2.1 (Nat.le_trans HX.out.2.2.2 (size1 _ _)) ?_; intro v1 w1 hown1 hgrow1 _)
                have HN : Hid (∃ k' : Nat, k' ≤ T.length ∧ (Value.int .i64 ((k : Int) + 1)) = .int .i64 k' ∧ TSt w #[.map (some b1), .map (some b2)] #[.slice an N.length cn, .slice (some ⟨b, off, none⟩) T.length ct] (endO H N) w1 ∧ OwnX w1 (w.heap.size + 3) v1 ((T.take k').foldl (tieS X (endO H N)) [])) := tie_fault hlt HR.out.1 HR.out.2 HBw.out HSt.out hown1 hgrow1
                clear hown1 hgrow1
                go_roundw
                case rel => exact HN.out
                case measure => simp [intOf]; omega
              · rw [hq] at cJ
                have HSt : Hid (((T.take (k + 1)).foldl (tieS X (endO H N)) []) = ((T.take k).foldl (tieS X (endO H N)) [])) := by
                  show _ = _
                  rw [HT.out]; exact tieS_ok HX.out (by unfold badE; simp only; rw [HQ.out, hq]; rfl)
                clear hq
                go_wp2_with (go_at_call 157; refine cJ.mono ?_; rintro e W4 ⟨rfl, hB4⟩; refine Hid.out ?_)
                refine Lib.hid ?_
                have HN : Hid (∃ k' : Nat, k' ≤ T.length ∧ (Value.int .i64 ((k : Int) + 1)) = .int .i64 k' ∧ TSt w #[.map (some b1), .map (some b2)] #[.slice an N.length cn, .slice (some ⟨b, off, none⟩) T.length ct] (endO H N) W4 ∧ OwnX W4 (w.heap.size + 3) u8 ((T.take k').foldl (tieS X (endO H N)) [])) := ⟨k + 1, hlt, by simp, HR.out.1.below (on1KC HB3.out hB4 (Nat.le_refl _)), by rw [HSt.out]; exact own_below HR.out.2 (on1KC HB3.out hB4 (Nat.le_refl _))⟩
                clear cJ hB4
                go_wp2
                go_roundw
                case rel => exact HN.out
                case measure => simp [intOf]; omega
        · obtain rfl : k = T.length := by omega
          have HE : Hid (XPost w (tieF X (endO H N) T) (.returned u8) wr) := ⟨u8, rfl, own_baseC (by have := HR.out.2; rw [List.take_length] at this; exact this) (by omega), HR.out.1.1⟩
          clear hlt
          go_wp2
          go_ret
          exact HE.out
end Go.Proofs.YtahamkajkkkjdaaGreatDoor
