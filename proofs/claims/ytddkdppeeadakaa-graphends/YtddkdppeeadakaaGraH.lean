/-
  The walks of Out and In.
-/
import Derived.Test.YtddkdppeeadakaaGraE
import Derived.Laws.AppendOwnNone
import Derived.Lib.Hide
namespace Go.Proofs.Ytddkdppeeadakaa
open Go.RowKit
set_option linter.unusedVariables false
set_option linter.unusedSimpArgs false

/-- Integers as cells. -/
def cellsI (L : List Int) : List Value := L.map fun x => .int .i64 x
theorem cellsI_app (L M : List Int) : cellsI (L ++ M) = cellsI L ++ cellsI M := by simp [cellsI]
theorem infoI : (Try.prog.info? 3).map (fun i => (i.zero, i.size, i.bytes)) = some (some (.int .i64 0), 1, 8) := by kernel_rfl
theorem new_at (w : World) (l : List Value) (e : TypeId) : ∀ j u, l[j]? = some u → (w.alloc (.cells l.toArray e)).cell? ((⟨w.heap.size, 0, none⟩ : Addr).add j) = some u := by
  intro j u hu
  rw [Addr.add_lit, Nat.zero_add, World.cell?_alloc_at (w := w) l.toArray e w.heap.size j rfl]
  simpa using hu
theorem takeT {T : List Te} {k : Nat} {t : Te} (h : T[k]? = some t) : T.take (k + 1) = T.take k ++ [t] := by
  obtain ⟨hk, rfl⟩ := List.getElem?_eq_some_iff.1 h
  rw [List.take_succ_eq_append_getElem hk]
theorem outs_hit {T : List Te} {k : Nat} {t : Te} (h : T[k]? = some t) {bd : ByteArray} {a : Int} (h1 : t.hit bd = true) (h2 : t.fr = a) : outs (T.take (k + 1)) bd a = outs (T.take k) bd a ++ [t.tt] := by
  rw [takeT h]; unfold outs; rw [List.filter_append, List.map_append]; simp [h1, h2]
theorem outs_miss {T : List Te} {k : Nat} {t : Te} (h : T[k]? = some t) {bd : ByteArray} {a : Int} (h1 : t.hit bd = false ∨ ¬ t.fr = a) : outs (T.take (k + 1)) bd a = outs (T.take k) bd a := by
  rw [takeT h]; unfold outs; rw [List.filter_append, List.map_append]
  rcases h1 with h1 | h1 <;> simp [h1]
theorem inns_hit {T : List Te} {k : Nat} {t : Te} (h : T[k]? = some t) {bd : ByteArray} {a : Int} (h1 : t.hit bd = true) (h2 : t.tt = a) : inns (T.take (k + 1)) bd a = inns (T.take k) bd a ++ [t.fr] := by
  rw [takeT h]; unfold inns; rw [List.filter_append, List.map_append]; simp [h1, h2]
theorem inns_miss {T : List Te} {k : Nat} {t : Te} (h : T[k]? = some t) {bd : ByteArray} {a : Int} (h1 : t.hit bd = false ∨ ¬ t.tt = a) : inns (T.take (k + 1)) bd a = inns (T.take k) bd a := by
  rw [takeT h]; unfold inns; rw [List.filter_append, List.map_append]
  rcases h1 with h1 | h1 <;> simp [h1]
theorem outs_le (T : List Te) (bd : ByteArray) (a : Int) : (outs T bd a).length ≤ T.length := by unfold outs; rw [List.length_map]; exact List.length_filter_le _ _
theorem inns_le (T : List Te) (bd : ByteArray) (a : Int) : (inns T bd a).length ≤ T.length := by unfold inns; rw [List.length_map]; exact List.length_filter_le _ _

/-- Where the loop of Out, or of In, stands: L k is what has come of k ties. -/
def OAt (w : World) (n : Nat) (L : Nat → List Int) (v i : Value) (wr : World) : Prop :=
  ∃ k : Nat, k ≤ n ∧ i = .int .i64 k ∧ wr.ownsRow w.heap.size 3 1 v (L k).length (cellsI (L k)) ∧ Below w.heap.size w wr
theorem own_base {w : World} {a b : Nat} {e : TypeId} {s n : Nat} {v : Value} {xs : List Value} (h : w.ownsRow b e s v n xs) (hab : a ≤ b) : w.ownsRow a e s v n xs := by
  obtain ⟨h1, h2⟩ := h
  refine ⟨h1, ?_⟩
  rcases h2 with h2 | ⟨g, cap, cur, h3, h4, h5⟩
  · exact .inl h2
  · exact .inr ⟨g, cap, cur, h3, Nat.le_trans hab h4, h5⟩

set_option maxHeartbeats 2000000 in
set_option maxRecDepth 100000 in
theorem out_any {vn vt : Value} {N : List Nd} {T : List Te} {w : World} (hN : IsN w vn N) (hT : IsT w vt T) (zN : SzN N) (zT : SzT T) (lN : N.length ≤ maxLen) (lT : T.length ≤ maxLen) (id : Int) (bd : ByteArray) :
    Calls Try.prog 6 #[.agg #[vn, vt], .int .i64 id, .string bd] w fun e w' => ∃ v, e = .returned (.tuple #[v, errV (fE N T id)]) ∧ (fE N T id = 0 → w'.ownsRow w.heap.size 3 1 v (outs T bd id).length (cellsI (outs T bd id))) ∧ (¬ fE N T id = 0 → v = .slice none 0 0) ∧ Below w.heap.size w w' := by
  obtain ⟨i0, hi0, hz0, hz1, hz2⟩ := info_parts infoI
  have hN' := hN
  obtain ⟨an, cn, rfl, hcn, hn⟩ := hN
  have hT' := hT
  obtain ⟨am, cm, rfl, hcm, hm⟩ := hT
  have hB : Below w.heap.size w (w.alloc (.cells #[.slice an N.length cn, .slice am T.length cm] 25)) := b_alloc (Below.refl _ _) _
  have cc := find_any (hN'.on hB) (hT'.on hB) zN zT lN lT id
  by_cases hf : fE N T id = 0
  · have hT0 : T.length ≤ 120 := by
      by_cases hg : gErr N T = 0
      · exact (gErr_len hg).2
      · rw [fE_bad id hg] at hf; exact absurd hf hg
    have HF : Hid (fE N T id = 0) := hf
    have HM : Hid (T = [] ∨ ∃ b off, am = some ⟨b, off, none⟩ ∧ b < w.heap.size ∧ LiesT w b off T) := hm
    rw [hf, errV_0] at cc
    have hg1 : (w.alloc (.cells #[.slice an N.length cn, .slice am T.length cm] 25)).cell? ⟨w.heap.size, 1, none⟩ = some (.slice am T.length cm) := by simp
    have HG : Hid (∀ W, Below (w.alloc (.cells #[.slice an N.length cn, .slice am T.length cm] 25)).heap.size (w.alloc (.cells #[.slice an N.length cn, .slice am T.length cm] 25)) W → W.cell? ⟨w.heap.size, 1, none⟩ = some (.slice am T.length cm)) := fun W hW => (hW.cell (by simp)).trans hg1
    clear hn hm hg1 hf hN' hT'
    go_enter Try.func6, Try.ntmps6
    go_wp2_with (first | (go_at_call 8; refine cc.mono ?_; rintro e W1 ⟨x, rfl, hB1⟩; have k0 := HG.out W1 hB1))
    have HW : Hid (Below w.heap.size w W1) := on1 hB hB1
    clear cc hB hB1 HG
    go_loopw [10, 25] (fun v i wr => OAt W1 T.length (fun k => outs (T.take k) bd id) v i wr) (fun _ i _ => T.length - (intOf i).toNat)
    case atStart => exact ⟨0, Nat.zero_le _, rfl, World.ownsRow_nil _ _ _ _, Below.refl _ _⟩
    case round =>
      obtain ⟨k, hk, rfl, ho, hB⟩ := hrel
      by_cases hlt : k < T.length
      · obtain ⟨t, ht⟩ : ∃ t, T[k]? = some t := ⟨T[k], by simp [hlt]⟩
        rcases HM.out with rfl | ⟨b, off, rfl, hb, hL⟩
        · exact absurd hlt (by simp)
        obtain ⟨c0, c1, c2⟩ := hL k t ht
        have hbw : Below w.heap.size w wr := on1 HW.out hB
        have d0 := (hbw.cell (p := ⟨b, off + k * 3, none⟩) hb).trans c0
        have d1 := (hbw.cell (p := ⟨b, off + k * 3 + 1, none⟩) hb).trans c1
        have d2 := (hbw.cell (p := ⟨b, off + k * 3 + 2, none⟩) hb).trans c2
        have hbr : b < wr.heap.size := Nat.lt_of_lt_of_le hb hbw.size
        have hbn : ¬ b = wr.heap.size := by omega
        have HP : Hid (T[k]? = some t) := ht
        clear c0 c1 c2 hL ht hbw
        obtain ⟨tb, tf, tt⟩ := t
        simp only at d0 d1 d2
        have HR : Hid (Below W1.heap.size W1 (wr.alloc (.cells #[.string tb, .int .i64 tf, .int .i64 tt] 31)) ∧ (wr.alloc (.cells #[.string tb, .int .i64 tf, .int .i64 tt] 31)).ownsRow W1.heap.size 3 1 u10 (outs (T.take k) bd id).length (cellsI (outs (T.take k) bd id))) := ⟨b_alloc hB _, ho.alloc _⟩
        by_cases hh : (tb.toList == bd.toList) = true ∧ tf = id
        · obtain ⟨h1, h2⟩ := hh
          have HE : Hid (outs (T.take (k + 1)) bd id = outs (T.take k) bd id ++ [tt]) := outs_hit HP.out h1 h2
          have h3 : (tf == id) = true := by simpa using h2
          have hle : (outs (T.take k) bd id).length ≤ k := Nat.le_trans (outs_le _ _ _) (List.length_take_le _ _)
          have HL : Hid ((outs (T.take k) bd id).length + 1 ≤ maxLen ∧ ((outs (T.take k) bd id).length + 1) * 8 ≤ 140737488355328) := by
            unfold maxLen; exact ⟨by omega, by omega⟩
          have HO : Hid (((wr.alloc (.cells #[.string tb, .int .i64 tf, .int .i64 tt] 31)).alloc (.cells #[.int .i64 tt] 3)).ownsRow W1.heap.size 3 1 u10 (outs (T.take k) bd id).length (cellsI (outs (T.take k) bd id)) ∧ Below W1.heap.size W1 ((wr.alloc (.cells #[.string tb, .int .i64 tf, .int .i64 tt] 31)).alloc (.cells #[.int .i64 tt] 3))) := ⟨HR.out.2.alloc _, b_alloc HR.out.1 _⟩
          clear hle ho hB HR h2
          go_wp2_with (at_builtin; refine wpList_append_own _ rfl (.tmp 39) (.tmp 42) 32 rfl W1.heap.size 3 i0 _ 1 8 Try.underlying32 hi0 hz0 hz1 hz2 rfl (by decide) u10 (outs (T.take k) bd id).length (cellsI (outs (T.take k) bd id)) rfl HO.out.1 ⟨wr.heap.size + 1, 0, none⟩ 1 1 [.int .i64 tt] (by simp [Act.eval]) rfl (by have := new_at (wr.alloc (.cells #[.string tb, .int .i64 tf, .int .i64 tt] 31)) [.int .i64 tt] 3; simpa using this) (by simp [Value.oneCell']) HL.out.1 HL.out.2 HO.out.2.size ?_; intro v1 w1 hown1 hgrow1 _; refine Hid.out ?_)
          refine Lib.hid ?_
          have HRR : Hid (OAt W1 T.length (fun k => outs (T.take k) bd id) v1 (.int .i64 ((k + 1 : Nat) : Int)) w1) := by
            refine ⟨k + 1, by omega, rfl, ?_, HO.out.2.grown hgrow1 HO.out.2.size (fun k hk => (HO.out.1.lt k hk).1)⟩
            simp only
            rw [HE.out, List.length_append, cellsI_app]
            exact hown1
          clear hown1
          go_wp2
          refine ⟨?_, ?_⟩
          · first | exact HRR.out | ((repeat apply Exists.intro); refine ⟨?_, rfl⟩; exact HRR.out)
          · simp [intOf]
            try omega
        · have HE : Hid (outs (T.take (k + 1)) bd id = outs (T.take k) bd id) := outs_miss HP.out (by
            by_cases h1 : (tb.toList == bd.toList) = true
            · exact .inr fun h2 => hh ⟨h1, h2⟩
            · exact .inl (by simpa [Te.hit] using h1))
          have HRR : Hid (OAt W1 T.length (fun k => outs (T.take k) bd id) u10 (.int .i64 ((k + 1 : Nat) : Int)) (wr.alloc (.cells #[.string tb, .int .i64 tf, .int .i64 tt] 31))) := by
            refine ⟨k + 1, by omega, rfl, ?_, HR.out.1⟩
            simp only
            rw [HE.out]
            exact HR.out.2
          clear ho hB HR HE
          by_cases h1 : (tb.toList == bd.toList) = true
          · have h3 : (tf == id) = false := by simpa using fun h2 => hh ⟨h1, h2⟩
            clear hh
            go_wp2
            refine ⟨?_, ?_⟩
            · first | exact HRR.out | ((repeat apply Exists.intro); refine ⟨?_, rfl⟩; exact HRR.out)
            · simp [intOf]
              try omega
          · have h1' : (tb.toList == bd.toList) = false := by simpa using h1
            clear hh h1
            go_wp2
            refine ⟨?_, ?_⟩
            · first | exact HRR.out | ((repeat apply Exists.intro); refine ⟨?_, rfl⟩; exact HRR.out)
            · simp [intOf]
              try omega
      · have hke : T.take k = T := List.take_of_length_le (by omega)
        simp only at ho
        rw [hke] at ho
        have HO : Hid (wr.ownsRow W1.heap.size 3 1 u10 (outs T bd id).length (cellsI (outs T bd id)) ∧ Below W1.heap.size W1 wr) := ⟨ho, hB⟩
        clear ho hB hke
        go_wp2
        go_ret2
        exact ⟨_, ret_v (by rw [HF.out]; rfl), fun _ => own_base HO.out.1 HW.out.size, fun h => absurd HF.out h, on1 HW.out HO.out.2⟩
  · have HF : Hid (¬ fE N T id = 0) := hf
    rw [errV_ne hf] at cc
    clear hf hn hm
    go_enter Try.func6, Try.ntmps6
    go_wp2_with (first | (go_at_call 8; refine cc.mono ?_; rintro e W1 ⟨x, rfl, hB1⟩))
    go_ret2
    exact ⟨.slice none 0 0, ret_v (by rw [errV_ne HF.out]; rfl), fun h => absurd h HF.out, fun _ => rfl, on1 hB hB1⟩
end Go.Proofs.Ytddkdppeeadakaa
