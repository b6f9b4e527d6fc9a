/-
  The walk of schema.printKind.
-/
import Derived.Test.YtgjlonilbhlneaaGreatDoorM10
namespace Go.Proofs.YtgjlonilbhlneaaGreatDoor
open Go.RowKit
set_option linter.unusedVariables false
set_option linter.unusedSimpArgs false

theorem join_any {v : Value} {ws : List Nm} {w : World} (sp : Nm) (h : IsS w v ws) (h0 : 0 < ws.length) (hl : ws.length ≤ 1000) (hj : (Lib.join ws sp).length ≤ 8388608) :
    Calls Tryz.prog 50 #[v, .string (bs sp)] w fun e w' => e = .returned (.string (bs (Lib.join ws sp))) ∧ Below w.heap.size w w' := by
  rcases h with ⟨_, _, _, rfl, _⟩ | ⟨b, off, cap, rfl, hc, hm, hb, hL⟩
  · simp at h0
  · have e1 : (ws.map bs).map (·.data.toList) = ws := by
      rw [List.map_map]
      have : ((fun x : ByteArray => x.data.toList) ∘ bs) = id := by funext l; simp
      rw [this, List.map_id]
    have cj := Tryz.strings_Join b off cap (ws.map bs) (bs sp) w (fun j x hx => by
        rw [List.getElem?_map] at hx
        obtain ⟨n, h1, rfl⟩ := Option.map_eq_some_iff.1 hx
        exact hL j n h1) hb (by simp; omega) (by simpa using hc) (by rw [e1, bs_data]; omega)
    rw [e1, List.length_map, bs_data] at cj
    exact cj
structure KOk (k : Kd) : Prop where
  of4 : k.of.length ≤ 4
  fs8 : k.fs.length ≤ 8
  nms : ∀ n ∈ k.of, n.length ≤ 8
  fds : ∀ f ∈ k.fs, f.nm.length ≤ 8 ∧ (f.t = 1 ∨ f.t = 2 ∨ f.t = 3)
theorem join_len (ws : List Nm) (sp : Nm) (m : Nat) (h : ∀ n ∈ ws, n.length ≤ m) : (Lib.join ws sp).length ≤ (m + sp.length) * ws.length := by
  unfold Lib.join
  induction ws with
  | nil => simp
  | cons a r ih =>
    have ha := h a (by simp)
    have hr := ih (fun n hn => h n (by simp [hn]))
    cases r with
    | nil => simp; omega
    | cons b r =>
      rw [List.intercalate_cons_cons]
      simp only [List.length_append, List.length_cons] at hr ⊢
      rw [Nat.mul_add, Nat.mul_one]
      omega
def PKs (w : World) (ws0 : List Nm) (fs : List Fd) (s3 s22 : Value) (wr : World) : Prop :=
  ∃ m : Nat, m ≤ fs.length ∧ s22 = .int .i64 m ∧ wr.ownsRow w.heap.size 9 1 s3 (ws0 ++ (fs.take m).map fText).length (cellsS (ws0 ++ (fs.take m).map fText)) ∧ Below w.heap.size w wr
theorem pk_next {w : World} {ws0 : List Nm} {fs : List Fd} {m : Nat} {p : Fd} {v : Value} {wr : World} (hp : fs[m]? = some p) (ho : wr.ownsRow w.heap.size 9 1 v ((ws0 ++ (fs.take m).map fText).length + 1) (cellsS (ws0 ++ (fs.take m).map fText) ++ [.string (bs (fText p))])) (hB : Below w.heap.size w wr) : PKs w ws0 fs v (.int .i64 ((m + 1 : Nat) : Int)) wr := by
  have hm := (List.getElem?_eq_some_iff.1 hp).1
  have e : ws0 ++ (fs.take (m + 1)).map fText = (ws0 ++ (fs.take m).map fText) ++ [fText p] := by rw [takeK hp]; simp
  refine ⟨m + 1, by omega, rfl, ?_, hB⟩
  rw [e, List.length_append, cellsS_app]
  exact ho
theorem isF_view {w : World} {v : Value} {l : List Fd} (h : IsF w v l) : ∃ ao c, v = .slice ao l.length c ∧ ∀ (j : Nat) g, l[j]? = some g → ∃ b o, ao = some ⟨b, o, none⟩ ∧ b < w.heap.size ∧ w.cell? ⟨b, o + j * 4, none⟩ = some (.string (bs g.nm)) ∧ w.cell? ⟨b, o + j * 4 + 1, none⟩ = some (.int .i64 g.t) ∧ w.cell? ⟨b, o + j * 4 + 2, none⟩ = some (.bool g.must) ∧ w.cell? ⟨b, o + j * 4 + 3, none⟩ = some (.bool g.key) := by
  rcases h with ⟨ao, c, rfl, rfl, _⟩ | ⟨b, off, cap, rfl, _, _, hb, hl⟩
  · exact ⟨ao, c, rfl, fun j g hg => by simp at hg⟩
  · exact ⟨_, _, rfl, fun j g hg => ⟨b, off, rfl, hb, hl j g hg⟩⟩
set_option maxHeartbeats 8000000 in
set_option maxRecDepth 100000 in
theorem printKind_nil (k : Kd) (ao : Option Addr) (co : Nat) (af : Option Addr) (cf : Nat) (w : World) (hS : IsS w (.slice ao k.of.length co) k.of) (HVF : Hid (∀ (j : Nat) g, k.fs[j]? = some g → ∃ b o, af = some ⟨b, o, none⟩ ∧ b < w.heap.size ∧ w.cell? ⟨b, o + j * 4, none⟩ = some (.string (bs g.nm)) ∧ w.cell? ⟨b, o + j * 4 + 1, none⟩ = some (.int .i64 g.t) ∧ w.cell? ⟨b, o + j * 4 + 2, none⟩ = some (.bool g.must) ∧ w.cell? ⟨b, o + j * 4 + 3, none⟩ = some (.bool g.key))) (HK : Hid (KOk k ∧ TW w)) (hof : k.of = []) :
    Calls Tryz.prog 27 #[.agg #[.string (bs k.nm), .slice ao k.of.length co, .slice af k.fs.length cf]] w fun e w' => ∃ v, e = .returned v ∧ IsS w' v (kWords k) ∧ Below w.heap.size w w' := by
  obtain ⟨i0, hi0, hz0, hz1, hz2⟩ := info_parts info9
  have h8 := HK.out.1.fs8
  have h4 := HK.out.1.of4
  obtain ⟨W1, hW1⟩ : ∃ W1, W1 = (w.alloc (.cells #[.string (bs k.nm), .slice ao k.of.length co, .slice af k.fs.length cf] 55)).alloc (.cells #[.string ⟨#[107, 105, 110, 100]⟩, .string (bs k.nm)] 9) := ⟨_, rfl⟩
  have hB1 : Below w.heap.size w W1 := by rw [hW1]; exact b_alloc (b_alloc (Below.refl _ _) (Nat.le_refl _) _) (Nat.le_refl _) _
  have ho1 : W1.ownsRow w.heap.size 9 1 (.slice (some ⟨w.heap.size + 1, 0, none⟩) 2 2) 2 [.string ⟨#[107, 105, 110, 100]⟩, .string (bs k.nm)] := by
    rw [hW1]
    have := own_lit (w := w.alloc (.cells #[.string (bs k.nm), .slice ao k.of.length co, .slice af k.fs.length cf] 55)) (e := 9) (size := 1) #[.string ⟨#[107, 105, 110, 100]⟩, .string (bs k.nm)] 2 rfl (by unfold maxLen; omega)
    simp only [World.size_alloc] at this
    exact own_base this (by omega)
  have e0 : W1.cell? ⟨w.heap.size, 0, none⟩ = some (.string (bs k.nm)) := by rw [hW1]; simp
  have e1 : W1.cell? ⟨w.heap.size, 1, none⟩ = some (.slice ao k.of.length co) := by rw [hW1]; simp
  have e2 : W1.cell? ⟨w.heap.size, 2, none⟩ = some (.slice af k.fs.length cf) := by rw [hW1]; simp
  have hs1 : w.heap.size < W1.heap.size := by rw [hW1]; simp; omega
  obtain ⟨WS0, hWS0⟩ : ∃ WS0, WS0 = [[107, 105, 110, 100], k.nm] ++ (if k.of = [] then [] else [[111, 102], Lib.join k.of [44]]) := ⟨_, rfl⟩
  have HWS : Hid (WS0 ++ k.fs.map fText = kWords k) := by rw [hWS0]; rfl
  rw [if_pos hof, List.append_nil] at hWS0
  have hws : WS0.length ≤ 4 := by rw [hWS0]; simp
  have hl0 : ¬ (0 : Int) < (k.of.length : Int) := by rw [hof]; simp
  have HO3 : Hid (W1.ownsRow w.heap.size 9 1 (.slice (some ⟨w.heap.size + 1, 0, none⟩) 2 2) (WS0 ++ (k.fs.take 0).map fText).length (cellsS (WS0 ++ (k.fs.take 0).map fText)) ∧ Below w.heap.size w W1) := by
    rw [hWS0]; exact ⟨by simpa [cellsS, bs] using ho1, hB1⟩
  clear hS hof hWS0 hB1 ho1
  go_enter Tryz.func27, Tryz.ntmps27
  go_wp2_with fail
  rw [← hW1]
  clear hW1
  go_wp2
  go_loopw [3, 22] (fun s3 s22 wr => PKs w WS0 k.fs s3 s22 wr) (fun _ s22 _ => k.fs.length - (intOf s22).toNat)
  case atStart => exact ⟨0, Nat.zero_le _, rfl, HO3.out.1, HO3.out.2⟩
  case round =>
    obtain ⟨m, hm, rfl, ho, hB⟩ := hrel
    by_cases hlt : m < k.fs.length
    · obtain ⟨p, hp⟩ : ∃ p, k.fs[m]? = some p := ⟨k.fs[m], by simp [hlt]⟩
      obtain ⟨bf, of, rfl, hbf, g0, g1, g2, g3⟩ := HVF.out m p hp
      have x0 := (hB.cell (p := ⟨bf, of + m * 4, none⟩) hbf).trans g0
      have x1 := (hB.cell (p := ⟨bf, of + m * 4 + 1, none⟩) hbf).trans g1
      have x2 := (hB.cell (p := ⟨bf, of + m * 4 + 2, none⟩) hbf).trans g2
      have x3 := (hB.cell (p := ⟨bf, of + m * 4 + 3, none⟩) hbf).trans g3
      have hfp := HK.out.1.fds p (List.mem_of_getElem? hp)
      have hBx : Below w.heap.size w (wr.alloc (.cells #[.string (bs p.nm), .int .i64 p.t, .bool p.must, .bool p.key] 52)) := b_alloc hB (Nat.le_refl _) _
      have cf := printField_any p (wr.alloc (.cells #[.string (bs p.nm), .int .i64 p.t, .bool p.must, .bool p.key] 52)) (HK.out.2.on hBx) hfp.2 hfp.1
      have HP : Hid (k.fs[m]? = some p) := hp
      have hmi : (m : Int) < (k.fs.length : Int) := by omega
      have hbn : bf < wr.heap.size := Nat.lt_of_lt_of_le hbf hB.size
      obtain ⟨n, hn⟩ : ∃ n, n = (WS0 ++ (k.fs.take m).map fText).length := ⟨_, rfl⟩
      have hn12 : n ≤ 12 := by rw [hn]; simp only [List.length_append, List.length_map, List.length_take]; omega
      have HO : Hid (wr.ownsRow w.heap.size 9 1 u3 n (cellsS (WS0 ++ (k.fs.take m).map fText)) ∧ Below w.heap.size w (wr.alloc (.cells #[.string (bs p.nm), .int .i64 p.t, .bool p.must, .bool p.key] 52)) ∧ n = (WS0 ++ (k.fs.take m).map fText).length) := ⟨by rw [hn]; exact ho, hBx, hn⟩
      have HM : Hid (n + 1 ≤ maxLen ∧ (n + 1) * 16 ≤ 140737488355328) := by unfold maxLen; exact ⟨by omega, by omega⟩
      clear g0 g1 g2 g3 hp hfp ho hBx hn
      go_wp2_with (go_at_call 51; refine cf.mono ?_; rintro e W5 ⟨rfl, hB5⟩; refine Hid.out ?_)
      refine Lib.hid ?_
      have hBw5 := on1 HO.out.2.1 hB5 (Nat.le_refl _)
      have HO5 : Hid ((W5.alloc (.cells #[.string (bs (fText p))] 9)).ownsRow w.heap.size 9 1 u3 n (cellsS (WS0 ++ (k.fs.take m).map fText)) ∧ Below w.heap.size w (W5.alloc (.cells #[.string (bs (fText p))] 9))) := ⟨(own_below (HO.out.1.alloc _) hB5).alloc _, b_alloc hBw5 (Nat.le_refl _) _⟩
      clear cf hB5 hBw5
      go_wp2_with (at_builtin; refine wpList_append_own _ rfl (.tmp 26) (.tmp 29) 45 rfl w.heap.size 9 i0 _ 1 16 Tryz.underlying45 hi0 hz0 hz1 hz2 rfl (by decide) u3 n (cellsS (WS0 ++ (k.fs.take m).map fText)) rfl HO5.out.1 ⟨W5.heap.size, 0, none⟩ 1 1 [.string (bs (fText p))] rfl rfl (new_at _ _ _) (by simp [Value.oneCell']) HM.out.1 HM.out.2 HO5.out.2.size ?_; intro v6 w6 hown6 hgrow6 _; refine Hid.out ?_)
      refine Lib.hid ?_
      have HRR : Hid (PKs w WS0 k.fs v6 (.int .i64 ((m + 1 : Nat) : Int)) w6) := by
        refine pk_next HP.out ?_ (HO5.out.2.grown hgrow6 HO5.out.2.size (fun k hk => (HO5.out.1.lt k hk).1))
        rw [← HO.out.2.2]; exact hown6
      clear hown6 hgrow6
      go_wp2
      refine ⟨?_, ?_⟩
      · first | exact HRR.out | ((repeat apply Exists.intro); refine ⟨?_, rfl⟩; exact HRR.out)
      · simp [intOf]
        try omega
    · have hme : k.fs.take m = k.fs := List.take_of_length_le (by omega)
      rw [hme] at ho
      have HF : Hid (IsS wr u3 (kWords k) ∧ Below w.heap.size w wr) := ⟨by rw [← HWS.out]; exact own_isS ho, hB⟩
      clear ho hB hme
      go_wp2
      go_ret
      exact ⟨_, rfl, HF.out.1, HF.out.2⟩
set_option maxHeartbeats 8000000 in
set_option maxRecDepth 100000 in
theorem printKind_some (k : Kd) (ao : Option Addr) (co : Nat) (af : Option Addr) (cf : Nat) (w : World) (hS : IsS w (.slice ao k.of.length co) k.of) (HVF : Hid (∀ (j : Nat) g, k.fs[j]? = some g → ∃ b o, af = some ⟨b, o, none⟩ ∧ b < w.heap.size ∧ w.cell? ⟨b, o + j * 4, none⟩ = some (.string (bs g.nm)) ∧ w.cell? ⟨b, o + j * 4 + 1, none⟩ = some (.int .i64 g.t) ∧ w.cell? ⟨b, o + j * 4 + 2, none⟩ = some (.bool g.must) ∧ w.cell? ⟨b, o + j * 4 + 3, none⟩ = some (.bool g.key))) (HK : Hid (KOk k ∧ TW w)) (hof : ¬ k.of = []) :
    Calls Tryz.prog 27 #[.agg #[.string (bs k.nm), .slice ao k.of.length co, .slice af k.fs.length cf]] w fun e w' => ∃ v, e = .returned v ∧ IsS w' v (kWords k) ∧ Below w.heap.size w w' := by
  obtain ⟨i0, hi0, hz0, hz1, hz2⟩ := info_parts info9
  have h8 := HK.out.1.fs8
  have h4 := HK.out.1.of4
  obtain ⟨W1, hW1⟩ : ∃ W1, W1 = (w.alloc (.cells #[.string (bs k.nm), .slice ao k.of.length co, .slice af k.fs.length cf] 55)).alloc (.cells #[.string ⟨#[107, 105, 110, 100]⟩, .string (bs k.nm)] 9) := ⟨_, rfl⟩
  have hB1 : Below w.heap.size w W1 := by rw [hW1]; exact b_alloc (b_alloc (Below.refl _ _) (Nat.le_refl _) _) (Nat.le_refl _) _
  have ho1 : W1.ownsRow w.heap.size 9 1 (.slice (some ⟨w.heap.size + 1, 0, none⟩) 2 2) 2 [.string ⟨#[107, 105, 110, 100]⟩, .string (bs k.nm)] := by
    rw [hW1]
    have := own_lit (w := w.alloc (.cells #[.string (bs k.nm), .slice ao k.of.length co, .slice af k.fs.length cf] 55)) (e := 9) (size := 1) #[.string ⟨#[107, 105, 110, 100]⟩, .string (bs k.nm)] 2 rfl (by unfold maxLen; omega)
    simp only [World.size_alloc] at this
    exact own_base this (by omega)
  have e0 : W1.cell? ⟨w.heap.size, 0, none⟩ = some (.string (bs k.nm)) := by rw [hW1]; simp
  have e1 : W1.cell? ⟨w.heap.size, 1, none⟩ = some (.slice ao k.of.length co) := by rw [hW1]; simp
  have e2 : W1.cell? ⟨w.heap.size, 2, none⟩ = some (.slice af k.fs.length cf) := by rw [hW1]; simp
  have hs1 : w.heap.size < W1.heap.size := by rw [hW1]; simp; omega
  obtain ⟨WS0, hWS0⟩ : ∃ WS0, WS0 = [[107, 105, 110, 100], k.nm] ++ (if k.of = [] then [] else [[111, 102], Lib.join k.of [44]]) := ⟨_, rfl⟩
  have HWS : Hid (WS0 ++ k.fs.map fText = kWords k) := by rw [hWS0]; rfl
  rw [if_neg hof] at hWS0
  have hws : WS0.length ≤ 4 := by rw [hWS0]; simp
  have hpos : 0 < k.of.length := List.length_pos_iff.2 hof
  have hl0 : (0 : Int) < (k.of.length : Int) := by omega
  have hjl : (Lib.join k.of [44]).length ≤ 36 := by
    have := join_len k.of [44] 8 HK.out.1.nms
    simp only [List.length_cons, List.length_nil] at this; omega
  have cj : Calls Tryz.prog 50 #[.slice ao k.of.length co, .string ⟨#[44]⟩] W1 fun e w' => e = .returned (.string (bs (Lib.join k.of [44]))) ∧ Below W1.heap.size W1 w' := join_any [44] (hS.on hB1) hpos (by omega) (by omega)
  have HW0 : Hid (WS0 = [[107, 105, 110, 100], k.nm] ++ [[111, 102], Lib.join k.of [44]]) := hWS0
  have HO1 : Hid (W1.ownsRow w.heap.size 9 1 (.slice (some ⟨w.heap.size + 1, 0, none⟩) 2 2) 2 [.string ⟨#[107, 105, 110, 100]⟩, .string (bs k.nm)] ∧ Below w.heap.size w W1) := ⟨ho1, hB1⟩
  generalize Lib.join k.of [44] = J at cj HW0
  clear hS hof hWS0 hB1 ho1 hjl
  go_enter Tryz.func27, Tryz.ntmps27
  go_wp2_with fail
  rw [← hW1]
  clear hW1
  go_wp2_with (go_at_call 50; refine cj.mono ?_; rintro e W2 ⟨rfl, hB2⟩; refine Hid.out ?_)
  refine Lib.hid ?_
  have f2 := (hB2.cell (p := ⟨w.heap.size, 2, none⟩) hs1).trans e2
  have hs2 : w.heap.size < W2.heap.size := Nat.lt_of_lt_of_le hs1 hB2.size
  have HO2 : Hid ((W2.alloc (.cells #[.string ⟨#[111, 102]⟩, .string (bs J)] 9)).ownsRow w.heap.size 9 1 (.slice (some ⟨w.heap.size + 1, 0, none⟩) 2 2) 2 [.string ⟨#[107, 105, 110, 100]⟩, .string (bs k.nm)] ∧ Below w.heap.size w (W2.alloc (.cells #[.string ⟨#[111, 102]⟩, .string (bs J)] 9))) := ⟨(own_below HO1.out.1 hB2).alloc _, b_alloc (on1 HO1.out.2 hB2 (Nat.le_refl _)) (Nat.le_refl _) _⟩
  have HM2 : Hid (2 + 2 ≤ maxLen ∧ (2 + 2) * 16 ≤ 140737488355328) := by unfold maxLen; exact ⟨by omega, by omega⟩
  clear cj hB2
  go_wp2_with (at_builtin; refine wpList_append_own _ rfl (.tmp 13) (.tmp 17) 45 rfl w.heap.size 9 i0 _ 1 16 Tryz.underlying45 hi0 hz0 hz1 hz2 rfl (by decide) (.slice (some ⟨w.heap.size + 1, 0, none⟩) 2 2) 2 [.string ⟨#[107, 105, 110, 100]⟩, .string (bs k.nm)] rfl HO2.out.1 ⟨W2.heap.size, 0, none⟩ 2 2 [.string ⟨#[111, 102]⟩, .string (bs J)] rfl rfl (new_at _ _ _) (by simp [Value.oneCell']) HM2.out.1 HM2.out.2 HO2.out.2.size ?_; intro v3 W3 hown3 hgrow3 _; refine Hid.out ?_)
  refine Lib.hid ?_
  have hne3 : some w.heap.size ≠ (Value.slice (some ⟨w.heap.size + 1, 0, none⟩) 2 2).ownBlock := by simp [Value.ownBlock]
  have g2 := hgrow3.cell (a := ⟨w.heap.size, 2, none⟩) (v := .slice af k.fs.length cf) (by rw [World.cell?_alloc_lt _ _ ⟨w.heap.size, 2, none⟩ hs2]; exact f2) hne3
  have HO3 : Hid (W3.ownsRow w.heap.size 9 1 v3 (WS0 ++ (k.fs.take 0).map fText).length (cellsS (WS0 ++ (k.fs.take 0).map fText)) ∧ Below w.heap.size w W3) := by
    refine ⟨?_, HO2.out.2.grown hgrow3 HO2.out.2.size (fun k hk => (HO2.out.1.lt k hk).1)⟩
    rw [HW0.out]
    simpa [cellsS, bs] using hown3
  clear hown3 hgrow3 hne3
  go_wp2
  go_loopw [3, 22] (fun s3 s22 wr => PKs w WS0 k.fs s3 s22 wr) (fun _ s22 _ => k.fs.length - (intOf s22).toNat)
  case atStart => exact ⟨0, Nat.zero_le _, rfl, HO3.out.1, HO3.out.2⟩
  case round =>
    obtain ⟨m, hm, rfl, ho, hB⟩ := hrel
    by_cases hlt : m < k.fs.length
    · obtain ⟨p, hp⟩ : ∃ p, k.fs[m]? = some p := ⟨k.fs[m], by simp [hlt]⟩
      obtain ⟨bf, of, rfl, hbf, g0, g1, g2, g3⟩ := HVF.out m p hp
      have x0 := (hB.cell (p := ⟨bf, of + m * 4, none⟩) hbf).trans g0
      have x1 := (hB.cell (p := ⟨bf, of + m * 4 + 1, none⟩) hbf).trans g1
      have x2 := (hB.cell (p := ⟨bf, of + m * 4 + 2, none⟩) hbf).trans g2
      have x3 := (hB.cell (p := ⟨bf, of + m * 4 + 3, none⟩) hbf).trans g3
      have hfp := HK.out.1.fds p (List.mem_of_getElem? hp)
      have hBx : Below w.heap.size w (wr.alloc (.cells #[.string (bs p.nm), .int .i64 p.t, .bool p.must, .bool p.key] 52)) := b_alloc hB (Nat.le_refl _) _
      have cf := printField_any p (wr.alloc (.cells #[.string (bs p.nm), .int .i64 p.t, .bool p.must, .bool p.key] 52)) (HK.out.2.on hBx) hfp.2 hfp.1
      have HP : Hid (k.fs[m]? = some p) := hp
      have hmi : (m : Int) < (k.fs.length : Int) := by omega
      have hbn : bf < wr.heap.size := Nat.lt_of_lt_of_le hbf hB.size
      obtain ⟨n, hn⟩ : ∃ n, n = (WS0 ++ (k.fs.take m).map fText).length := ⟨_, rfl⟩
      have hn12 : n ≤ 12 := by rw [hn]; simp only [List.length_append, List.length_map, List.length_take]; omega
      have HO : Hid (wr.ownsRow w.heap.size 9 1 u3 n (cellsS (WS0 ++ (k.fs.take m).map fText)) ∧ Below w.heap.size w (wr.alloc (.cells #[.string (bs p.nm), .int .i64 p.t, .bool p.must, .bool p.key] 52)) ∧ n = (WS0 ++ (k.fs.take m).map fText).length) := ⟨by rw [hn]; exact ho, hBx, hn⟩
      have HM : Hid (n + 1 ≤ maxLen ∧ (n + 1) * 16 ≤ 140737488355328) := by unfold maxLen; exact ⟨by omega, by omega⟩
      clear g0 g1 g2 g3 hp hfp ho hBx hn
      go_wp2_with (go_at_call 51; refine cf.mono ?_; rintro e W5 ⟨rfl, hB5⟩; refine Hid.out ?_)
      refine Lib.hid ?_
      have hBw5 := on1 HO.out.2.1 hB5 (Nat.le_refl _)
      have HO5 : Hid ((W5.alloc (.cells #[.string (bs (fText p))] 9)).ownsRow w.heap.size 9 1 u3 n (cellsS (WS0 ++ (k.fs.take m).map fText)) ∧ Below w.heap.size w (W5.alloc (.cells #[.string (bs (fText p))] 9))) := ⟨(own_below (HO.out.1.alloc _) hB5).alloc _, b_alloc hBw5 (Nat.le_refl _) _⟩
      clear cf hB5 hBw5
      go_wp2_with (at_builtin; refine wpList_append_own _ rfl (.tmp 26) (.tmp 29) 45 rfl w.heap.size 9 i0 _ 1 16 Tryz.underlying45 hi0 hz0 hz1 hz2 rfl (by decide) u3 n (cellsS (WS0 ++ (k.fs.take m).map fText)) rfl HO5.out.1 ⟨W5.heap.size, 0, none⟩ 1 1 [.string (bs (fText p))] rfl rfl (new_at _ _ _) (by simp [Value.oneCell']) HM.out.1 HM.out.2 HO5.out.2.size ?_; intro v6 w6 hown6 hgrow6 _; refine Hid.out ?_)
      refine Lib.hid ?_
      have HRR : Hid (PKs w WS0 k.fs v6 (.int .i64 ((m + 1 : Nat) : Int)) w6) := by
        refine pk_next HP.out ?_ (HO5.out.2.grown hgrow6 HO5.out.2.size (fun k hk => (HO5.out.1.lt k hk).1))
        rw [← HO.out.2.2]; exact hown6
      clear hown6 hgrow6
      go_wp2
      refine ⟨?_, ?_⟩
      · first | exact HRR.out | ((repeat apply Exists.intro); refine ⟨?_, rfl⟩; exact HRR.out)
      · simp [intOf]
        try omega
    · have hme : k.fs.take m = k.fs := List.take_of_length_le (by omega)
      rw [hme] at ho
      have HF : Hid (IsS wr u3 (kWords k) ∧ Below w.heap.size w wr) := ⟨by rw [← HWS.out]; exact own_isS ho, hB⟩
      clear ho hB hme
      go_wp2
      go_ret
      exact ⟨_, rfl, HF.out.1, HF.out.2⟩
theorem printKind_any (k : Kd) (w : World) (hS : IsS w k.vo k.of) (hF : IsF w k.vf k.fs) (hk : KOk k) (hT : TW w) :
    Calls Tryz.prog 27 #[k.one] w fun e w' => ∃ v, e = .returned v ∧ IsS w' v (kWords k) ∧ Below w.heap.size w w' := by
  obtain ⟨ao, co, evo, _⟩ := hS.sln
  obtain ⟨af, cf, evf, hvf⟩ := isF_view hF
  unfold Kd.one
  rw [evo, evf]
  rw [evo] at hS
  by_cases h : k.of = []
  · exact printKind_nil k ao co af cf w hS hvf ⟨hk, hT⟩ h
  · exact printKind_some k ao co af cf w hS hvf ⟨hk, hT⟩ h
end Go.Proofs.YtgjlonilbhlneaaGreatDoor

/-
  Mathematics of a schema's text: what a right schema's words are, how long its lines are, and how many of them there are.
-/
namespace Go.Proofs.YtgjlonilbhlneaaGreatDoor
open Go.RowKit
set_option linter.unusedVariables false
set_option linter.unusedSimpArgs false

theorem fBad_zero {o : Option Fd} {f : Fd} (h : fBad o f = 0) : nErr f.nm = 0 ∧ (f.t = 1 ∨ f.t = 2 ∨ f.t = 3) := by
  unfold fBad at h
  split at h
  · rename_i h1
    split at h
    · rename_i h2; exact ⟨h1, h2⟩
    · exact absurd h (by decide)
  · rename_i h1; exact absurd h h1
theorem fChk_all (fs : List Fd) : ∀ o, fChk o fs = 0 → ∀ f ∈ fs, nErr f.nm = 0 ∧ (f.t = 1 ∨ f.t = 2 ∨ f.t = 3) := by
  induction fs with
  | nil => intro o _ f hf; simp at hf
  | cons g r ih =>
    intro o h f hf
    by_cases h0 : fBad o g = 0
    · rw [fChk_step h0] at h
      rcases List.mem_cons.1 hf with rfl | hf
      · exact fBad_zero h0
      · exact ih _ h f hf
    · rw [fChk_stop h0] at h; exact absurd h h0
theorem good_name {L : List Kd} (h : Good L) {k : Kd} (hk : k ∈ L) : nErr k.nm = 0 := by
  obtain ⟨i, hi⟩ := List.mem_iff_getElem?.1 hk
  exact (kErr_zero (h i k hi)).1
theorem good_of {L : List Kd} (h : Good L) {k : Kd} (hk : k ∈ L) : ∀ n ∈ k.of, nErr n = 0 := fun n hn => by
  obtain ⟨i, hi⟩ := List.mem_iff_getElem?.1 hk
  obtain ⟨x, hx, rfl⟩ := oChk_zero _ _ _ (kErr_zero (h i k hi)).2.2.2.1 n hn
  exact good_name h (List.mem_of_mem_take hx)
theorem good_fs {L : List Kd} (h : Good L) {k : Kd} (hk : k ∈ L) : ∀ f ∈ k.fs, nErr f.nm = 0 ∧ (f.t = 1 ∨ f.t = 2 ∨ f.t = 3) := by
  obtain ⟨i, hi⟩ := List.mem_iff_getElem?.1 hk
  exact fChk_all _ _ (kErr_zero (h i k hi)).2.2.2.2.1
theorem good_ok {L : List Kd} (h : Good L) {k : Kd} (hk : k ∈ L) : KOk k :=
  ⟨(h.small k hk).1, (h.small k hk).2, fun n hn => name_len (good_of h hk n hn), fun f hf => ⟨name_len (good_fs h hk f hf).1, (good_fs h hk f hf).2⟩⟩
theorem tyW_len (t : Int) : (tyW t).length ≤ 4 := by
  unfold tyW
  split
  · decide
  · split
    · decide
    · split <;> decide
theorem fText_len (f : Fd) (h : f.nm.length ≤ 8) : (fText f).length ≤ 14 := by
  have h1 := tyW_len f.t
  have h2 : (if f.key = true then [42] else if f.must = true then [33] else ([] : Nm)).length ≤ 1 := by
    split
    · decide
    · split <;> decide
  unfold fText
  simp only [List.length_append, List.length_cons, List.length_nil]
  omega
theorem kWords_len (k : Kd) (h : KOk k) (hn : k.nm.length ≤ 8) : 0 < (kWords k).length ∧ (kWords k).length ≤ 12 ∧ ∀ x ∈ kWords k, x.length ≤ 36 := by
  have h1 := h.of4
  have h2 := h.fs8
  have h3 := join_len k.of [44] 8 h.nms
  simp only [List.length_cons, List.length_nil] at h3
  unfold kWords
  refine ⟨by simp, ?_, ?_⟩
  · by_cases e : k.of = [] <;> simp [e] <;> omega
  · intro x hx
    rw [List.mem_append, List.mem_append] at hx
    rcases hx with (hx | hx) | hx
    · rcases List.mem_cons.1 hx with rfl | hx
      · decide
      · have : x = k.nm := by simpa using hx
        rw [this]; omega
    · by_cases e : k.of = []
      · rw [if_pos e] at hx; simp at hx
      · rw [if_neg e] at hx
        rcases List.mem_cons.1 hx with rfl | hx
        · decide
        · have : x = Lib.join k.of [44] := by simpa using hx
          rw [this]; omega
    · obtain ⟨f, hf, rfl⟩ := List.mem_map.1 hx
      have := fText_len f (h.fds f hf).1
      omega
theorem kLine_len (k : Kd) (h : KOk k) (hn : k.nm.length ≤ 8) : (Lib.join (kWords k) [32]).length ≤ 444 := by
  obtain ⟨_, h1, h2⟩ := kWords_len k h hn
  have := join_len (kWords k) [32] 36 h2
  simp only [List.length_cons, List.length_nil] at this
  omega
structure BOk (x : Bd) : Prop where
  nm : nErr x.nm = 0
  fr : nErr x.fr = 0
  tt : nErr x.tt = 0
  rg : inR x.mn x.mx = true
theorem good_bond {L : List Kd} {B : List Bd} (h : Good L) (hb : GoodB L B) {x : Bd} (hx : x ∈ B) : BOk x := by
  obtain ⟨i, hi⟩ := List.mem_iff_getElem?.1 hx
  obtain ⟨h1, _, h3, h4, h5⟩ := bErr_zero (hb i x hi)
  obtain ⟨k1, hk1, e1⟩ := hasK_iff.1 h3
  obtain ⟨k2, hk2, e2⟩ := hasK_iff.1 h4
  exact ⟨h1, by rw [← e1]; exact good_name h hk1, by rw [← e2]; exact good_name h hk2, h5⟩
theorem bWords_len (x : Bd) (h : BOk x) : ∀ y ∈ bWords x, y.length ≤ 21 := by
  obtain ⟨r1, r2, r3⟩ := inR_iff.1 h.rg
  have l1 := name_len h.nm
  have l2 := name_len h.fr
  have l3 := name_len h.tt
  have l4 := Lib.itoa_length_le x.mn (by omega) (by omega)
  have l5 : (mxW x.mx).length ≤ 21 := by
    unfold mxW
    split
    · decide
    · exact Lib.itoa_length_le x.mx (by omega) (by omega)
  intro y hy
  unfold bWords at hy
  simp only [List.mem_cons, List.not_mem_nil, or_false] at hy
  rcases hy with rfl | rfl | rfl | rfl | rfl | rfl
  · decide
  · omega
  · omega
  · omega
  · exact l4
  · exact l5
theorem bLine_len (x : Bd) (h : BOk x) : (Lib.join (bWords x) [32]).length ≤ 132 := by
  have := join_len (bWords x) [32] 21 (bWords_len x h)
  simp only [List.length_cons, List.length_nil, show (bWords x).length = 6 from rfl] at this
  omega
theorem lines_len {α : Type} (f : α → List Nm) (m : Nat) (l : List α) (h : ∀ x ∈ l, (Lib.join (f x) [32]).length ≤ m) : (l.flatMap fun x => lineL (f x)).length ≤ (m + 1) * l.length := by
  induction l with
  | nil => simp
  | cons a r ih =>
    have h1 := h a (by simp)
    have h2 := ih (fun x hx => h x (by simp [hx]))
    have h3 : (lineL (f a)).length = (Lib.join (f a) [32]).length + 1 := by unfold lineL; simp
    simp only [List.flatMap_cons, List.length_append, List.length_cons] at h2 ⊢
    rw [Nat.mul_add, Nat.mul_one]
    omega
theorem kText_take {L : List Kd} {i : Nat} {k : Kd} (h : L[i]? = some k) : kText (L.take (i + 1)) = kText (L.take i) ++ lineL (kWords k) := by
  unfold kText; rw [takeK h]; simp
theorem bText_take {B : List Bd} {i : Nat} {x : Bd} (h : B[i]? = some x) : bText (B.take (i + 1)) = bText (B.take i) ++ lineL (bWords x) := by
  unfold bText; rw [takeK h]; simp
def nl (l : Nm) : Nat := l.countP (· == 10)
end Go.Proofs.YtgjlonilbhlneaaGreatDoor
