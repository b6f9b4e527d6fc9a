import Derived.Test.YtahamkajkkkjdaaGreatDoorM06
import Derived.Laws.Externs
namespace Go.Proofs.YtahamkajkkkjdaaGreatDoor
open Go.RowKit
set_option linter.unusedVariables false
set_option linter.unusedSimpArgs false
set_option maxHeartbeats 1000000 in
set_option maxRecDepth 100000 in
theorem cmpString_any (a b : ByteArray) (w : World) :
    Calls Tryz.prog 98 #[.string a, .string b] w fun e w' => e = .returned (.int .i64 (Lib.compareBytes a.data.toList b.data.toList)) ∧ w' = w := by
  go_enter Tryz.func98, Tryz.ntmps98
  go_wp2
  rw [run_callFunc_extern Tryz.func132 (by kernel_rfl) (by kernel_rfl) (by kernel_rfl) (e := Extern.BytealgCompare.compare) (by kernel_rfl), Lib.run_compareString]
  simp only [Result.andThen]
  rw [Oper.upon_value]
  go_wp2
  go_ret
  exact ⟨rfl, rfl⟩
set_option maxHeartbeats 1000000 in
theorem compare_any (a b : ByteArray) (w : World) :
    Calls Tryz.prog 68 #[.string a, .string b] w fun e w' => e = .returned (.int .i64 (Lib.compareBytes a.data.toList b.data.toList)) ∧ w' = w := by
  go_enter Tryz.func68, Tryz.ntmps68
  go_wp2_with (go_at_call 98; refine (cmpString_any _ _ _).mono ?_; rintro e w' ⟨rfl, rfl⟩)
  go_ret
  exact ⟨rfl, rfl⟩
set_option maxHeartbeats 1000000 in
theorem byName_any (f g : Fd) (w : World) :
    Calls Tryz.prog 67 #[f.one, g.one] w fun e w' => e = .returned (.int .i64 (Lib.compareBytes f.nm g.nm)) ∧ Below w.heap.size w w' := by
  have c := fun w => compare_any (bs f.nm) (bs g.nm) w
  simp only [bs_data] at c
  generalize Lib.compareBytes f.nm g.nm = r at c ⊢
  go_enter Tryz.func67, Tryz.ntmps67
  go_wp2_with (go_at_call 68; refine (c _).mono ?_; rintro e w' ⟨rfl, rfl⟩)
  go_ret
  exact ⟨rfl, b_allocKC (b_allocKC (Below.refl _ _) (Nat.le_refl _) _) (Nat.le_refl _) _⟩
theorem wp_region_afterC {P : Program} {X : Type} (F : X → World) {id : Nat} {Q : Exit → Act → World → Prop} {a : Act} {w : World} {l : List Oper} (hm : P.follows .mixedOrders = true) (hB : Region.lexB .any l.toArray = true)
    (hC : ∃ x, { w with drawn := w.drawn + 1 } = F x) (h : wpQuiet P l.toArray (fun w' => ∃ x, w' = F x) (fun a' => ∀ w', (∃ x, w' = F x) → Q .normal a' w') l a) : (Code.region id l.toArray true).wp P Q a w :=
  wp_region_quiet (C := fun w' => ∃ x, w' = F x) hm hB hC (by simpa using h)
theorem after_allC (w : World) : ∃ (X : Type) (_ : Nonempty X) (F : X → World), (∀ x, Below w.heap.size w (F x)) ∧ (∀ W, Below w.heap.size w W → ∃ x, W = F x) :=
  ⟨{ W // Below w.heap.size w W }, ⟨⟨w, Below.refl _ _⟩⟩, Subtype.val, fun x => x.2, fun W h => ⟨⟨W, h⟩, rfl⟩⟩
def fnd (nm : Nm) (all : List Fd) : Bool := match all[lo nm all]? with
  | some g => g.nm == nm
  | none => false
set_option maxHeartbeats 8000000 in
set_option maxRecDepth 100000 in
theorem search_some (b off cap : Nat) (L : List Fd) (f : Fd) (w : World) (hb : b < w.heap.size) (hL : LiesF w b off L) (hs : Srt L) (hn : L.length ≤ 96) :
    Calls Tryz.prog 69 #[.slice (some ⟨b, off, none⟩) L.length cap, f.one, .func (.func 67) #[] #[]] w fun e w' => e = .returned (.tuple #[.int .i64 (lo f.nm L), .bool (fnd f.nm L)]) ∧ Below w.heap.size w w' := by
  have hlo := lo_le f.nm L
  have HS : Hid (LiesF w b off L ∧ Srt L) := ⟨hL, hs⟩
  have hB0 : Below w.heap.size w (w.alloc (.cells #[.string (bs f.nm), .int .i64 f.t, .bool f.must, .bool f.key] 56)) := b_allocKC (Below.refl _ _) (Nat.le_refl _) _
  obtain ⟨w0, hw0⟩ : ∃ w0, w0 = w.alloc (.cells #[.string (bs f.nm), .int .i64 f.t, .bool f.must, .bool f.key] 56) := ⟨_, rfl⟩
  have HW : Hid (w0.cell? ⟨w.heap.size, 0, none⟩ = some (.string (bs f.nm)) ∧ w0.cell? ⟨w.heap.size, 1, none⟩ = some (.int .i64 f.t) ∧ w0.cell? ⟨w.heap.size, 2, none⟩ = some (.bool f.must) ∧ w0.cell? ⟨w.heap.size, 3, none⟩ = some (.bool f.key) ∧ w.heap.size < w0.heap.size) := by
    subst hw0; refine ⟨?_, ?_, ?_, ?_, ?_⟩ <;> simp
  rw [← hw0] at hB0
  have HB0 : Hid (Below w.heap.size w w0) := hB0
  clear hL hs hB0
  go_enter Tryz.func69, Tryz.ntmps69
  go_wp2
  rw [← hw0]
  clear hw0
  go_loopw [9, 10] (fun i j wr => ∃ p q : Nat, p ≤ lo f.nm L ∧ lo f.nm L ≤ q ∧ q ≤ L.length ∧ i = .int .i64 p ∧ j = .int .i64 q ∧ Below w0.heap.size w0 wr) (fun i j _ => (intOf j).toNat - (intOf i).toNat)
  case atStart => exact ⟨0, L.length, Nat.zero_le _, hlo, Nat.le_refl _, rfl, rfl, Below.refl _ _⟩
  case round =>
    obtain ⟨p, q, h1, h2, h3, rfl, rfl, hB⟩ := hrel
    have HR : Hid (p ≤ lo f.nm L ∧ lo f.nm L ≤ q ∧ Below w0.heap.size w0 wr) := ⟨h1, h2, hB⟩
    obtain ⟨g0, g1, g2, g3, g4⟩ := HW.out
    have e0 := (hB.cell (p := ⟨w.heap.size, 0, none⟩) g4).trans g0
    have e1 := (hB.cell (p := ⟨w.heap.size, 1, none⟩) g4).trans g1
    have e2 := (hB.cell (p := ⟨w.heap.size, 2, none⟩) g4).trans g2
    have e3 := (hB.cell (p := ⟨w.heap.size, 3, none⟩) g4).trans g3
    have hBw : Below w.heap.size w wr := on1KC HB0.out hB (Nat.le_refl _)
    by_cases hlt : p < q
    · obtain ⟨m, hm⟩ : ∃ m, m = (p + q) / 2 := ⟨_, rfl⟩
      have hml : m < L.length := by omega
      have hmq : m < q := by omega
      have hpm : p ≤ m := by omega
      have hdiv : ((p : Int) + (q : Int)) / 2 = (m : Int) := by omega
      obtain ⟨x, hx⟩ : ∃ x, L[m]? = some x := ⟨L[m], by simp [hml]⟩
      obtain ⟨c0, c1, c2, c3⟩ := HS.out.1 m x hx
      have d0 := (hBw.cell (p := ⟨b, off + m * 4, none⟩) hb).trans c0
      have d1 := (hBw.cell (p := ⟨b, off + m * 4 + 1, none⟩) hb).trans c1
      have d2 := (hBw.cell (p := ⟨b, off + m * 4 + 2, none⟩) hb).trans c2
      have d3 := (hBw.cell (p := ⟨b, off + m * 4 + 3, none⟩) hb).trans c3
      have hsp := lo_spec f.nm HS.out.2 m x hx
      rw [less_cmpC, decide_eq_true_iff] at hsp
      have cb := fun W => byName_any x f W
      obtain ⟨r, hr⟩ : ∃ r, Lib.compareBytes x.nm f.nm = r := ⟨_, rfl⟩
      rw [hr] at cb hsp
      clear c0 c1 c2 c3 g0 g1 g2 g3 hr hx hm hB
      by_cases hr0 : r < 0
      · have HM : Hid (m + 1 ≤ lo f.nm L) := hsp.2 hr0
        clear hsp h1 h2
        go_wp2_with fail
        try rw [hdiv]
        clear hdiv
        go_region_with (go_at_call 67; refine (cb _).mono ?_; rintro e W2 ⟨rfl, hB2⟩)
        all_goals
          go_wp2
          go_roundw
          case rel => exact ⟨m + 1, q, HM.out, HR.out.2.1, h3, by go_num, rfl, on1KC HR.out.2.2.drew hB2 (Nat.le_refl _)⟩
          case measure => simp [intOf]; omega
      · have HM : Hid (lo f.nm L ≤ m) := by
          show _ ≤ _
          have : ¬ m < lo f.nm L := fun h => hr0 (hsp.1 h)
          omega
        clear hsp h1 h2
        go_wp2_with fail
        try rw [hdiv]
        clear hdiv
        go_region_with (go_at_call 67; refine (cb _).mono ?_; rintro e W2 ⟨rfl, hB2⟩)
        all_goals
          go_wp2
          go_roundw
          case rel => exact ⟨p, m, HR.out.1, HM.out, by omega, rfl, by go_num, on1KC HR.out.2.2.drew hB2 (Nat.le_refl _)⟩
          case measure => simp [intOf]; omega
    · have hpl : p = lo f.nm L := by omega
      by_cases hl : p < L.length
      · obtain ⟨x, hx⟩ : ∃ x, L[p]? = some x := ⟨L[p], by simp [hl]⟩
        obtain ⟨c0, c1, c2, c3⟩ := HS.out.1 p x hx
        have d0 := (hBw.cell (p := ⟨b, off + p * 4, none⟩) hb).trans c0
        have d1 := (hBw.cell (p := ⟨b, off + p * 4 + 1, none⟩) hb).trans c1
        have d2 := (hBw.cell (p := ⟨b, off + p * 4 + 2, none⟩) hb).trans c2
        have d3 := (hBw.cell (p := ⟨b, off + p * 4 + 3, none⟩) hb).trans c3
        have cb := fun W => byName_any x f W
        have hz := cmpB_zeroC x.nm f.nm
        have hfnd : fnd f.nm L = (Lib.compareBytes x.nm f.nm == 0) := by
          unfold fnd; rw [← hpl, hx]; simp only
          rw [Bool.eq_iff_iff, beq_iff_eq, beq_iff_eq]; exact hz.symm
        obtain ⟨r, hr⟩ : ∃ r, Lib.compareBytes x.nm f.nm = r := ⟨_, rfl⟩
        rw [hr] at cb hfnd
        have HF : Hid (fnd f.nm L = (r == 0) ∧ p = lo f.nm L) := ⟨hfnd, hpl⟩
        have hqp : q = p ∨ ¬ q = p := by omega
        have hpi : (p : Int) < (L.length : Int) := by omega
        clear c0 c1 c2 c3 g0 g1 g2 g3 hr hx hB hz hfnd hpl h1 h2 hqp
        have hbr : b < wr.heap.size := Nat.lt_of_lt_of_le hb hBw.size
        have htr : w.heap.size < wr.heap.size := Nat.lt_of_lt_of_le g4 HR.out.2.2.size
        obtain ⟨X, hX, F, hF1, hF2⟩ := after_allC wr
        have k0 : ∀ y, (F y).cell? ⟨b, off + p * 4, none⟩ = some (.string (bs x.nm)) := fun y => ((hF1 y).cell (p := ⟨b, off + p * 4, none⟩) hbr).trans d0
        have k1 : ∀ y, (F y).cell? ⟨b, off + p * 4 + 1, none⟩ = some (.int .i64 x.t) := fun y => ((hF1 y).cell (p := ⟨b, off + p * 4 + 1, none⟩) hbr).trans d1
        have k2 : ∀ y, (F y).cell? ⟨b, off + p * 4 + 2, none⟩ = some (.bool x.must) := fun y => ((hF1 y).cell (p := ⟨b, off + p * 4 + 2, none⟩) hbr).trans d2
        have k3 : ∀ y, (F y).cell? ⟨b, off + p * 4 + 3, none⟩ = some (.bool x.key) := fun y => ((hF1 y).cell (p := ⟨b, off + p * 4 + 3, none⟩) hbr).trans d3
        have l0 : ∀ y, (F y).cell? ⟨w.heap.size, 0, none⟩ = some (.string (bs f.nm)) := fun y => ((hF1 y).cell (p := ⟨w.heap.size, 0, none⟩) htr).trans e0
        have l1 : ∀ y, (F y).cell? ⟨w.heap.size, 1, none⟩ = some (.int .i64 f.t) := fun y => ((hF1 y).cell (p := ⟨w.heap.size, 1, none⟩) htr).trans e1
        have l2 : ∀ y, (F y).cell? ⟨w.heap.size, 2, none⟩ = some (.bool f.must) := fun y => ((hF1 y).cell (p := ⟨w.heap.size, 2, none⟩) htr).trans e2
        have l3 : ∀ y, (F y).cell? ⟨w.heap.size, 3, none⟩ = some (.bool f.key) := fun y => ((hF1 y).cell (p := ⟨w.heap.size, 3, none⟩) htr).trans e3
        have cF : ∀ y, Calls Tryz.prog 67 #[x.one, f.one] (F y) fun e w'' => e = .returned (.int .i64 r) ∧ ∃ z, w'' = F z := fun y => (cb (F y)).mono fun e w'' h => ⟨h.1, hF2 _ (on1KC (hF1 y) h.2 (Nat.le_refl _))⟩
        have HX : Hid (∃ z, { wr with drawn := wr.drawn + 1 } = F z) := hF2 _ (Below.refl _ wr).drew
        have HF1 : Hid (∀ y, Below wr.heap.size wr (F y)) := hF1
        clear hF1 hF2 cb d0 d1 d2 d3 e0 e1 e2 e3
        go_wp2_with fail
        refine wp_region_afterC F (by kernel_rfl) (by kernel_rfl) HX.out ?_
        repeat (go_big_quiet_step (exact cF _))
        refine wpQuiet_nil ?_
        intro W2 hw2
        obtain ⟨y, rfl⟩ := hw2
        go_wp2
        go_ret2
        exact ⟨ret_v (by rw [HF.out.1, ← HF.out.2]; rfl), on1KC hBw (HF1.out y) (Nat.le_refl _)⟩
      · have hfnd : fnd f.nm L = false := by
          unfold fnd; rw [← hpl, List.getElem?_eq_none (by omega)]
        have HF : Hid (fnd f.nm L = false ∧ p = lo f.nm L) := ⟨hfnd, hpl⟩
        have hpi : ¬ (p : Int) < (L.length : Int) := by omega
        have hpd : decide ((p : Int) < (L.length : Int)) = false := by simpa using hpi
        clear g0 g1 g2 g3 hB hfnd hpl h1 h2
        go_wp2_with fail
        go_quiet (fail)
        go_wp2
        go_ret2
        exact ⟨ret_v (by rw [HF.out.1, ← HF.out.2]; rfl), b_drewKC hBw _⟩
set_option maxHeartbeats 4000000 in
theorem search_nil (ao : Option Addr) (c : Nat) (f : Fd) (w : World) :
    Calls Tryz.prog 69 #[.slice ao 0 c, f.one, .func (.func 67) #[] #[]] w fun e w' => e = .returned (.tuple #[.int .i64 0, .bool false]) ∧ Below w.heap.size w w' := by
  have hB0 : Below w.heap.size w (w.alloc (.cells #[.string (bs f.nm), .int .i64 f.t, .bool f.must, .bool f.key] 56)) := b_allocKC (Below.refl _ _) (Nat.le_refl _) _
  obtain ⟨w0, hw0⟩ : ∃ w0, w0 = w.alloc (.cells #[.string (bs f.nm), .int .i64 f.t, .bool f.must, .bool f.key] 56) := ⟨_, rfl⟩
  rw [← hw0] at hB0
  go_enter Tryz.func69, Tryz.ntmps69
  go_wp2
  rw [← hw0]
  clear hw0
  go_loopw [9, 10] (fun i j wr => i = .int .i64 0 ∧ j = .int .i64 0 ∧ wr = w0) (fun i j _ => 0)
  case atStart => exact ⟨rfl, rfl, rfl⟩
  case round =>
    obtain ⟨rfl, rfl, rfl⟩ := hrel
    go_wp2_with fail
    go_quiet (fail)
    go_wp2
    go_ret2
    exact ⟨rfl, b_drewKC hB0 _⟩
theorem search_any {v : Value} {L : List Fd} {w : World} (h : IsF w v L) (hs : Srt L) (hn : L.length ≤ 96) (f : Fd) :
    Calls Tryz.prog 69 #[v, f.one, .func (.func 67) #[] #[]] w fun e w' => e = .returned (.tuple #[.int .i64 (lo f.nm L), .bool (fnd f.nm L)]) ∧ Below w.heap.size w w' := by
  rcases h with ⟨ao, c, rfl, rfl, _⟩ | ⟨b, off, cap, rfl, hcap, hm, hb, hl⟩
  · exact search_nil ao c f w
  · exact search_some b off cap L f w hb hl hs hn
theorem fcells_one (f : Fd) : ∀ u ∈ f.cells, u.oneCell' = true := by
  intro u hu
  simp [Fd.cells] at hu
  rcases hu with rfl | rfl | rfl | rfl <;> rfl
theorem cellsF_ins (all : List Fd) (f : Fd) (i : Nat) : cellsF (all.take i ++ f :: all.drop i) = cellsF (all.take i) ++ f.cells ++ cellsF (all.drop i) := by
  simp [cellsF]
set_option maxHeartbeats 4000000 in
set_option maxRecDepth 100000 in
theorem insert_end {w : World} {base : Nat} {v : Value} {all : List Fd} (h : w.ownsRow base 56 4 v all.length (cellsF all)) (vb : Nat) (f : Fd) (hf : ∀ j u, f.cells[j]? = some u → w.cell? ((⟨vb, 0, none⟩ : Addr).add j) = some u) (hbase : base ≤ w.heap.size) (hn : all.length ≤ 96) :
    Calls Tryz.prog 70 #[v, .int .i64 all.length, .slice (some ⟨vb, 0, none⟩) 1 1] w fun e w' => ∃ v', e = .returned v' ∧ w'.ownsRow base 56 4 v' (all.length + 1) (cellsF all ++ f.cells) ∧ (∀ B w0, Below B w0 w → B ≤ base → Below B w0 w') := by
  obtain ⟨i0, hi0, hz0, hz1, hz2⟩ := info_parts info59
  have HM : Hid (all.length + 1 ≤ maxLen ∧ (all.length + 1) * 32 ≤ 140737488355328) := by unfold maxLen; exact ⟨by omega, by omega⟩
  have HO : Hid (w.ownsRow base 56 4 v all.length (cellsF all) ∧ ∀ j u, f.cells[j]? = some u → w.cell? ((⟨vb, 0, none⟩ : Addr).add j) = some u) := ⟨h, hf⟩
  rcases h.2 with ⟨rfl, h0⟩ | ⟨g, cap, cur, rfl, hb, hg, hle, hcm, hcs, ht⟩
  · rw [h0] at HM HO ⊢
    clear h hf hn h0
    go_enter Tryz.func70, Tryz.ntmps70
    go_wp2_with (at_builtin; refine wpList_append_own _ rfl (.tmp 23) (.tmp 24) 28 rfl base 56 i0 _ 4 32 Tryz.underlying28 hi0 hz0 hz1 hz2 rfl (by decide) _ 0 (cellsF all) rfl HO.out.1 ⟨vb, 0, none⟩ 1 1 f.cells rfl rfl HO.out.2 (fcells_one f) HM.out.1 HM.out.2 hbase ?_; intro v1 w1 hown1 hgrow1 _)
    go_ret
    exact ⟨_, rfl, hown1, fun B w0 hB hBb => hB.grown hgrow1 (Nat.le_trans hBb hbase) (fun k hk => Nat.le_trans hBb (HO.out.1.lt k hk).1)⟩
  · have hnc : (all.length : Int) ≤ (cap : Int) := by omega
    unfold maxLen at hcm
    clear h hf hb hg hcs ht
    generalize all.length = n at *
    go_enter Tryz.func70, Tryz.ntmps70
    go_wp2_with (at_builtin; refine wpList_append_own _ rfl (.tmp 23) (.tmp 24) 28 rfl base 56 i0 _ 4 32 Tryz.underlying28 hi0 hz0 hz1 hz2 rfl (by decide) _ n (cellsF all) rfl HO.out.1 ⟨vb, 0, none⟩ 1 1 f.cells rfl rfl HO.out.2 (fcells_one f) HM.out.1 HM.out.2 hbase ?_; intro v1 w1 hown1 hgrow1 _)
    all_goals
      go_ret
      exact ⟨_, rfl, hown1, fun B w0 hB hBb => hB.grown hgrow1 (Nat.le_trans hBb hbase) (fun k hk => Nat.le_trans hBb (HO.out.1.lt k hk).1)⟩
set_option maxHeartbeats 4000000 in
set_option maxRecDepth 100000 in
theorem insert_room {w : World} {g n cap i vb : Nat} {cur : Array Value} {xs ys : List Value} (f : Fd) (hg : w.heap[g]? = some (.cells cur 56 (0, 0))) (hs : cur.size = cap * 4) (hcm : cap ≤ maxLen)
    (ht : cur.toList.take (n * 4) = xs ++ ys) (hx : xs.length = i * 4) (hy : ys.length = (n - i) * 4) (hi : i < n) (hn : n ≤ 96) (hroom : n + 1 ≤ cap) (h1 : ∀ u ∈ ys, u.oneCell' = true)
    (hv : w.heap[vb]? = some (.cells #[.string (bs f.nm), .int .i64 f.t, .bool f.must, .bool f.key] 56 (0, 0))) (hne : vb ≠ g) :
    Calls Tryz.prog 70 #[.slice (some ⟨g, 0, none⟩) n cap, .int .i64 i, .slice (some ⟨vb, 0, none⟩) 1 1] w fun e w' => e = .returned (.slice (some ⟨g, 0, none⟩) (n + 1) cap) ∧ ∃ w1 : World, w1.heap = w.heap ∧ w1.os = w.os ∧ w1.tape = w.tape ∧ w1.output = w.output ∧ w' = w1.setRow g (lay (lay cur.toList ((i + 1) * 4) ys) (i * 4) f.cells).toArray := by
  have hov : ∀ o lb cb, (callFunc 99 #[.slice (some ⟨vb, 0, none⟩) 1 1, .slice (some ⟨g, o, none⟩) lb cb]).run Tryz.prog w = .ok (.value (.bool false)) w := fun o lb cb => by
    rw [run_callFunc_extern Tryz.func99 (by kernel_rfl) (by kernel_rfl) (by kernel_rfl) (e := Extern.SlicesOverlaps.overlaps #[28, 28] #[4]) (by kernel_rfl),
      Lib.run_overlaps_apart w 28 4 56 Tryz.underlying28 4 Tryz.sizeOf56 ⟨vb, 0, none⟩ ⟨g, o, none⟩ 1 1 lb cb hne 56 56 4 cur.size (by simp [World.shape?, hv]) (by simp [World.shape?, hg]) (by omega) (by simp [World.frozen?, hv]) (by simp [World.frozen?, hv])]
    rfl
  have hsz : (Tryz.prog.info? 56).map (·.size) = some 4 := by
    obtain ⟨i0, hi0, hz0, hz1, hz2⟩ := info_parts info59
    rw [hi0]; simp [hz1]
  have hcl : n * 4 ≤ cur.toList.length := by simp; omega
  have hyc : ∀ j u, ys[j]? = some u → cur.toList[i * 4 + j]? = some u := fun j u hu => by
    have hj := (List.getElem?_eq_some_iff.1 hu).1
    have e : (cur.toList.take (n * 4))[i * 4 + j]? = some u := by rw [ht, List.getElem?_append_right (by omega), hx]; simpa using hu
    rw [List.getElem?_take] at e
    split at e
    · exact e
    · cases e
  have hcp1 : ∀ ty dc sc, (Builtin.copy_ #[28, 28] ty #[.slice (some ⟨g, (i + 1) * 4, none⟩) (n - i) dc, .slice (some ⟨g, i * 4, none⟩) (n + 1 - i) sc]).run Tryz.prog w.drew = .ok (goInt ((n - i : Nat) : Int)) (w.drew.setRow g (lay cur.toList ((i + 1) * 4) ys).toArray) := fun ty dc sc =>
    run_copy_rowN w.drew 28 28 ty 56 4 g ((i + 1) * 4) (n - i) dc ⟨g, i * 4, none⟩ (n + 1 - i) sc cur 56 ys (n - i) Tryz.underlying28 hsz hg (by show min _ _ = _; omega) hy
      (fun j u hu => by rw [Addr.add_lit, cell_of_row w.drew g (i * 4 + j) cur 56 (0, 0) hg]; simpa using hyc j u hu) (by omega) h1
  have hl1 : (lay cur.toList ((i + 1) * 4) ys).length = cur.toList.length := lay_len (by simp; omega)
  obtain ⟨W1, hW1⟩ : ∃ W1, W1 = w.drew.setRow g (lay cur.toList ((i + 1) * 4) ys).toArray := ⟨_, rfl⟩
  have hg1 : W1.heap[g]? = some (.cells (lay cur.toList ((i + 1) * 4) ys).toArray 56 (0, 0)) := by rw [hW1]; exact setRow_heap w.drew g cur _ 56 _ hg
  have hv1 : W1.heap[vb]? = some (.cells #[.string (bs f.nm), .int .i64 f.t, .bool f.must, .bool f.key] 56 (0, 0)) := by rw [hW1, setRow_other w.drew g vb _ hne]; exact hv
  have hcp2 : ∀ ty dc sc, (Builtin.copy_ #[28, 28] ty #[.slice (some ⟨g, i * 4, none⟩) (n + 1 - i) dc, .slice (some ⟨vb, 0, none⟩) 1 sc]).run Tryz.prog W1 = .ok (goInt 1) (W1.setRow g (lay (lay cur.toList ((i + 1) * 4) ys) (i * 4) f.cells).toArray) := fun ty dc sc => by
    have := run_copy_rowN W1 28 28 ty 56 4 g (i * 4) (n + 1 - i) dc ⟨vb, 0, none⟩ 1 sc _ 56 f.cells 1 Tryz.underlying28 hsz hg1 (by show min _ _ = _; omega) rfl
      (fun j u hu => by rw [Addr.add_lit, cell_of_row W1 vb (0 + j) _ 56 (0, 0) hv1]; simpa [Fd.cells] using hu) (by simp [hl1, Fd.cells]; omega) (fcells_one f)
    simpa [lay] using this
  have hfin : W1.setRow g (lay (lay cur.toList ((i + 1) * 4) ys) (i * 4) f.cells).toArray = w.drew.setRow g (lay (lay cur.toList ((i + 1) * 4) ys) (i * 4) f.cells).toArray := by rw [hW1, setRow_setRow]
  obtain ⟨W2, hW2⟩ : ∃ W2, W2 = W1.setRow g (lay (lay cur.toList ((i + 1) * 4) ys) (i * 4) f.cells).toArray := ⟨_, rfl⟩
  rw [← hW2] at hcp2 hfin
  rw [← hW1] at hcp1
  have HF : Hid (W2 = w.drew.setRow g (lay (lay cur.toList ((i + 1) * 4) ys) (i * 4) f.cells).toArray) := hfin
  unfold maxLen at hcm
  have hz2 : ¬ ((i : Int) = (n : Int)) := by omega
  have hi1 : (i : Int) ≤ (n : Int) := by omega
  have hi2 : (i : Int) ≤ (n : Int) + 1 := by omega
  have hr1 : ¬ ((cap : Int) < (n : Int) + 1) := by omega
  have hci : ¬ (cap = i) := by omega
  have hci1 : ¬ (cap = i + 1) := by omega
  have hw1 : IntKind.i64.wrap ((i : Int) + 1) = (i : Int) + 1 := by rw [IntKind.wrap_i64]; omega
  have hb1 : (0 : Int) ≤ (i : Int) + 1 := by omega
  have htn : ((i : Int) + 1).toNat = i + 1 := by omega
  clear hg hv ht hs hx hy h1 hW1 hW2 hg1 hv1 hl1 hcl hyc hfin hsz
  go_enter Tryz.func70, Tryz.ntmps70
  go_wp2_with (simp only [hov])
  go_region_law (refine step_copy_runN rfl (.tmp 73) (.tmp 76) 28 28 rfl _ _ (by simp [Act.eval, Act.put]) (by simp [Act.eval, Act.put]) (hcp1 _ _ _) ?_)
  all_goals
    go_wp2_with (at_builtin; refine wpList_copy_runN _ rfl (.tmp 80) (.tmp 81) 28 28 rfl _ _ rfl rfl (hcp2 _ _ _) ?_)
    go_ret
    exact ⟨rfl, w.drew, rfl, rfl, rfl, rfl, HF.out⟩
set_option maxHeartbeats 4000000 in
set_option maxRecDepth 100000 in
theorem insert_grow {w : World} {g n cap i vb : Nat} {cur : Array Value} {xs ys : List Value} (f : Fd) (hg : w.heap[g]? = some (.cells cur 56 (0, 0))) (hs : cur.size = cap * 4)
    (ht : cur.toList.take (n * 4) = xs ++ ys) (hx : xs.length = i * 4) (hy : ys.length = (n - i) * 4) (hi : i < n) (hn : n ≤ 96) (hnc : n ≤ cap) (hroom : cap < n + 1) (h1 : ∀ u ∈ ys, u.oneCell' = true)
    (hv : w.heap[vb]? = some (.cells #[.string (bs f.nm), .int .i64 f.t, .bool f.must, .bool f.key] 56 (0, 0))) :
    Calls Tryz.prog 70 #[.slice (some ⟨g, 0, none⟩) n cap, .int .i64 i, .slice (some ⟨vb, 0, none⟩) 1 1] w fun e w' => ∃ G, ∃ row : List Value, e = .returned (.slice (some ⟨w.heap.size, 0, none⟩) (n + 1) G) ∧ n + 1 ≤ G ∧ G ≤ maxLen ∧ w'.heap[w.heap.size]? = some (.cells row.toArray 56 (0, 0)) ∧ row.length = G * 4 ∧ row.take ((n + 1) * 4) = xs ++ f.cells ++ ys ∧ Below w.heap.size w w' := by
  obtain ⟨i0, hi0, hz0, hzs, hzb⟩ := info_parts info59
  have hsz : (Tryz.prog.info? 56).map (·.size) = some 4 := by rw [hi0]; simp [hzs]
  have hgl : g < w.heap.size := (Array.getElem?_eq_some_iff.1 hg).1
  have hvl : vb < w.heap.size := (Array.getElem?_eq_some_iff.1 hv).1
  have hcl : n * 4 ≤ cur.toList.length := by simp; omega
  have hxyc : ∀ j u, (xs ++ ys)[j]? = some u → cur.toList[j]? = some u := fun j u hu => by
    rw [← ht, List.getElem?_take] at hu
    split at hu
    · exact hu
    · cases hu
  have hyc : ∀ j u, ys[j]? = some u → cur.toList[i * 4 + j]? = some u := fun j u hu => hxyc _ _ (by rw [List.getElem?_append_right (by omega), hx]; simpa using hu)
  have hxc : ∀ j u, xs[j]? = some u → cur.toList[j]? = some u := fun j u hu => hxyc _ _ (by rw [List.getElem?_append_left (List.getElem?_eq_some_iff.1 hu).1]; exact hu)
  have hold : (Builtin.firstCells i0.size i (.slice (some ⟨g, 0, none⟩) i cap)).run Tryz.prog w.drew = .ok xs.toArray w.drew := by
    rw [hzs]
    show (loadCells ⟨g, 0, none⟩ (i * 4)).run Tryz.prog w.drew = _
    rw [← hx]
    exact run_loadCells_list w.drew _ xs (fun j u hu => by rw [Addr.add_lit, cell_of_row w.drew g (0 + j) cur 56 (0, 0) hg]; simpa using hxc j u hu)
  have hik : i + (n + 1 - i) = n + 1 := by omega
  have hkk : (n : Int) + 1 - (i : Int) = ((n + 1 - i : Nat) : Int) := by omega
  obtain ⟨G, hG⟩ : ∃ G, G = grownCap w (n + 1) cap 56 := ⟨_, rfl⟩
  have hGn : n + 1 ≤ G := by rw [hG]; exact grownCap_ge w _ _ _
  have hGm : G ≤ maxLen := by rw [hG]; exact grownCap_le_maxLen w (n + 1) cap 56 (by unfold maxLen; omega)
  obtain ⟨Z, hZ⟩ : ∃ Z, Z = Builtin.zeroCells (Value.agg #[.string ⟨#[]⟩, .int .i64 0, .bool false, .bool false]).cells (n + 1 - i) := ⟨_, rfl⟩
  obtain ⟨T, hT⟩ : ∃ T, T = Builtin.zeroCells (Value.agg #[.string ⟨#[]⟩, .int .i64 0, .bool false, .bool false]).cells (G - (n + 1)) := ⟨_, rfl⟩
  have hZl : Z.toList.length = (n + 1 - i) * 4 := by rw [hZ]; simp [Builtin.zeroCells, Value.cells]
  have hTl : T.toList.length = (G - (n + 1)) * 4 := by rw [hT]; simp [Builtin.zeroCells, Value.cells]
  obtain ⟨R, hR⟩ : ∃ R, R = xs ++ Z.toList ++ T.toList := ⟨_, rfl⟩
  have hRl : R.length = G * 4 := by rw [hR]; simp only [List.length_append]; omega
  have hRa : xs.toArray ++ Z ++ T = R.toArray := by rw [hR]; apply Array.toList_inj.1; simp
  have hrz : ∀ ty, (Builtin.append_ #[28, 3] ty #[.slice (some ⟨g, 0, none⟩) i cap, .int .i64 ((n : Int) + 1 - (i : Int))]).run Tryz.prog w =
      .ok (.slice (some ⟨w.heap.size, 0, none⟩) (n + 1) G) (w.drew.alloc (.cells R.toArray 56)) := fun ty => by
    have h := Lib.run_append_grow_zeros w 28 3 ty 56 i0 _ .i64 .i64 Tryz.underlying28 Tryz.underlying3 hi0 hz0 (some ⟨g, 0, none⟩) i cap xs hold (n + 1 - i) (by omega) (by omega) (by omega) (by omega) (by rw [hzb]; omega) (by rw [hzb, hik]; exact growslice_fits hroom (by omega))
    rw [hik, ← hG, ← hZ, ← hT, hRa] at h
    rw [hkk]
    exact h
  obtain ⟨W1, hW1⟩ : ∃ W1, W1 = w.drew.alloc (.cells R.toArray 56) := ⟨_, rfl⟩
  have hB1 : Below w.heap.size w W1 := by rw [hW1]; exact (Below.refl _ w).drew.alloc (Nat.le_refl _) _
  have hh1 : W1.heap[w.heap.size]? = some (.cells R.toArray 56 (0, 0)) := by rw [hW1]; exact heap_alloc_new w.drew _
  have hv1 := (hB1.block vb hvl).trans hv
  have hg1 := (hB1.block g hgl).trans hg
  have hfl : f.cells.length = 4 := rfl
  have hcpA : ∀ ty dc sc, (Builtin.copy_ #[28, 28] ty #[.slice (some ⟨w.heap.size, i * 4, none⟩) (n + 1 - i) dc, .slice (some ⟨vb, 0, none⟩) 1 sc]).run Tryz.prog W1 = .ok (goInt 1) (W1.setRow w.heap.size (lay R (i * 4) f.cells).toArray) := fun ty dc sc => by
    have := run_copy_rowN W1 28 28 ty 56 4 w.heap.size (i * 4) (n + 1 - i) dc ⟨vb, 0, none⟩ 1 sc _ 56 f.cells 1 Tryz.underlying28 hsz hh1 (by show min _ _ = _; omega) rfl
      (fun j u hu => by rw [Addr.add_lit, cell_of_row W1 vb (0 + j) _ 56 (0, 0) hv1]; simpa [Fd.cells] using hu) (by rw [hfl, List.size_toArray, hRl]; omega) (fcells_one f)
    simpa [lay] using this
  obtain ⟨R2, hR2⟩ : ∃ R2, R2 = lay R (i * 4) f.cells := ⟨_, rfl⟩
  have hR2l : R2.length = G * 4 := by rw [hR2, lay_len (by rw [hfl, hRl]; omega)]; exact hRl
  rw [← hR2] at hcpA
  obtain ⟨W2, hW2⟩ : ∃ W2, W2 = W1.setRow w.heap.size R2.toArray := ⟨_, rfl⟩
  have hh2 : W2.drew.heap[w.heap.size]? = some (.cells R2.toArray 56 (0, 0)) := by rw [hW2]; exact setRow_heap W1 w.heap.size _ _ 56 _ hh1
  have hB2 : Below w.heap.size w W2 := by rw [hW2]; exact below_setRow hB1 (Nat.le_refl _) _
  have hg2 : W2.drew.heap[g]? = some (.cells cur 56 (0, 0)) := (hB2.block g hgl).trans hg
  have hcpB : ∀ ty dc sc, (Builtin.copy_ #[28, 28] ty #[.slice (some ⟨w.heap.size, (i + 1) * 4, none⟩) (n - i) dc, .slice (some ⟨g, i * 4, none⟩) (n - i) sc]).run Tryz.prog W2.drew = .ok (goInt ((n - i : Nat) : Int)) (W2.drew.setRow w.heap.size (lay R2 ((i + 1) * 4) ys).toArray) := fun ty dc sc =>
    run_copy_rowN W2.drew 28 28 ty 56 4 w.heap.size ((i + 1) * 4) (n - i) dc ⟨g, i * 4, none⟩ (n - i) sc _ 56 ys (n - i) Tryz.underlying28 hsz hh2 (by show min _ _ = _; omega) hy
      (fun j u hu => by rw [Addr.add_lit, cell_of_row W2.drew g (i * 4 + j) cur 56 (0, 0) hg2]; simpa using hyc j u hu) (by rw [List.size_toArray, hR2l]; omega) h1
  obtain ⟨W3, hW3⟩ : ∃ W3, W3 = W2.drew.setRow w.heap.size (lay R2 ((i + 1) * 4) ys).toArray := ⟨_, rfl⟩
  have HE : Hid (W3.heap[w.heap.size]? = some (.cells (lay R2 ((i + 1) * 4) ys).toArray 56 (0, 0)) ∧ (lay R2 ((i + 1) * 4) ys).length = G * 4 ∧ (lay R2 ((i + 1) * 4) ys).take ((n + 1) * 4) = xs ++ f.cells ++ ys ∧ Below w.heap.size w W3 ∧ n + 1 ≤ G ∧ G ≤ maxLen) := by
    refine ⟨by rw [hW3]; exact setRow_heap W2.drew w.heap.size _ _ 56 _ hh2, ?_, ?_, ?_, hGn, hGm⟩
    · rw [lay_len (by rw [hR2l]; omega)]; exact hR2l
    · have e := lay_grow xs ys f.cells Z.toList (by rw [hZl, hfl]; omega) T.toList
      rw [hR2, hR]
      rw [hx, hfl, hy] at e
      rw [show (i + 1) * 4 = i * 4 + 4 by omega, show (n + 1) * 4 = i * 4 + 4 + (n - i) * 4 by omega]
      exact e
    · rw [hW3]; exact below_setRow hB2.drew (Nat.le_refl _) _
  rw [← hW1] at hrz
  rw [← hW2] at hcpA
  rw [← hW3] at hcpB
  unfold maxLen at hGm
  have hz2 : ¬ ((i : Int) = (n : Int)) := by omega
  have hi1 : (i : Int) ≤ (n : Int) := by omega
  have hi2 : (i : Int) ≤ (n : Int) + 1 := by omega
  have hr1 : (cap : Int) < (n : Int) + 1 := by omega
  have hci : ¬ (cap = i) := by omega
  have hGi : ¬ (G = i) := by omega
  have hGi1 : ¬ (G = i + 1) := by omega
  have hw1 : IntKind.i64.wrap ((i : Int) + 1) = (i : Int) + 1 := by rw [IntKind.wrap_i64]; omega
  have hb1 : (0 : Int) ≤ (i : Int) + 1 := by omega
  have htn : ((i : Int) + 1).toNat = i + 1 := by omega
  clear hg hv ht hs hx hy h1 hW1 hW2 hW3 hg1 hv1 hh1 hh2 hg2 hcl hyc hxc hxyc hsz hold hik hkk hG hGn hZ hT hZl hTl hR hRl hRa hB1 hB2 hR2 hR2l hi0 hz0 hzs hzb hfl hgl hvl
  go_enter Tryz.func70, Tryz.ntmps70
  go_wp2_with (first
    | (at_builtin; refine Lib.wpList_append_run _ rfl _ _ _ _ rfl _ _ rfl rfl _ _ (hrz _) ?_)
    | (at_builtin; refine wpList_copy_runN _ rfl (.tmp 43) (.tmp 44) 28 28 rfl _ _ rfl rfl (hcpA _ _ _) ?_))
  go_region_law (refine step_copy_runN rfl (.tmp 50) (.tmp 53) 28 28 rfl _ _ (by simp [Act.eval, Act.put]) (by simp [Act.eval, Act.put]) (hcpB _ _ _) ?_)
  all_goals
    go_wp2
    go_ret
    exact ⟨G, _, rfl, HE.out.2.2.2.2.1, HE.out.2.2.2.2.2, HE.out.1, HE.out.2.1, HE.out.2.2.1, HE.out.2.2.2.1⟩
theorem insert_any {w : World} {base : Nat} {v : Value} {all : List Fd} (h : w.ownsRow base 56 4 v all.length (cellsF all)) (i : Nat) (hi : i ≤ all.length) (vb : Nat) (f : Fd) (hv : w.heap[vb]? = some (.cells #[.string (bs f.nm), .int .i64 f.t, .bool f.must, .bool f.key] 56 (0, 0))) (hne : v.ownBlock ≠ some vb) (hbase : base ≤ w.heap.size) (hn : all.length ≤ 96) :
    Calls Tryz.prog 70 #[v, .int .i64 i, .slice (some ⟨vb, 0, none⟩) 1 1] w fun e w' => ∃ v', e = .returned v' ∧ w'.ownsRow base 56 4 v' (all.take i ++ f :: all.drop i).length (cellsF (all.take i ++ f :: all.drop i)) ∧ (∀ B w0, Below B w0 w → B ≤ base → Below B w0 w') := by
  have hlen : (all.take i ++ f :: all.drop i).length = all.length + 1 := by simp; omega
  rw [hlen, cellsF_ins]
  by_cases he : i = all.length
  · subst he
    refine (insert_end h vb f (fun j u hu => by rw [Addr.add_lit, cell_of_row w vb (0 + j) _ 56 (0, 0) hv]; simpa [Fd.cells] using hu) hbase hn).mono ?_
    rintro e w' ⟨v', rfl, ho, hB⟩
    refine ⟨v', rfl, ?_, hB⟩
    rw [List.take_length, List.drop_length]
    simpa [cellsF] using ho
  · have hlt : i < all.length := by omega
    have hh := h
    rcases h.2 with ⟨rfl, h0⟩ | ⟨g, cap, cur, rfl, hb, hg, hle, hcm, hcs, ht⟩
    · omega
    · have hgb : vb ≠ g := fun e => hne (by simp [Value.ownBlock, e])
      have hsplit : cellsF all = cellsF (all.take i) ++ cellsF (all.drop i) := by rw [← cellsF_app, List.take_append_drop]
      have hx : (cellsF (all.take i)).length = i * 4 := by rw [cellsF_len, List.length_take_of_le hi]
      have hy : (cellsF (all.drop i)).length = (all.length - i) * 4 := by rw [cellsF_len, List.length_drop]
      have hfl : f.cells.length = 4 := rfl
      rw [hsplit] at ht
      by_cases hroom : all.length + 1 ≤ cap
      · refine (insert_room f hg hcs hcm ht hx hy hlt hn hroom (cellsF_one _) hv hgb).mono ?_
        rintro e w' ⟨rfl, w1, e1, e2, e3, e4, rfl⟩
        have hg1 : w1.heap[g]? = some (.cells cur 56 (0, 0)) := by rw [e1]; exact hg
        have hll : (lay (lay cur.toList ((i + 1) * 4) (cellsF (all.drop i))) (i * 4) f.cells).length = cap * 4 := by
          have hc : cur.toList.length = cap * 4 := by simpa using hcs
          have l1 := lay_len (l := cur.toList) (o := (i + 1) * 4) (cs := cellsF (all.drop i)) (by rw [hy, hc]; omega)
          rw [lay_len (by rw [l1, hfl, hc]; omega), l1, hc]
        refine ⟨_, rfl, ⟨by simp only [List.length_append]; omega, .inr ⟨g, cap, _, rfl, hb, setRow_heap w1 g cur _ 56 _ hg1, hroom, hcm, by simpa using hll, ?_⟩⟩, fun B w0 hB hBb => ?_⟩
        · have e := lay_room cur.toList (cellsF (all.take i)) (cellsF (all.drop i)) (cur.toList.drop (all.length * 4)) f.cells (by rw [← ht, List.take_append_drop]) (by
            have hc : cur.toList.length = cap * 4 := by simpa using hcs
            rw [hfl, List.length_drop, hc]; omega)
          rw [hx, hfl, hy] at e
          rw [show (i + 1) * 4 = i * 4 + 4 by omega, show (all.length + 1) * 4 = i * 4 + 4 + (all.length - i) * 4 by omega]
          simpa using e
        · have hB1 : Below B w0 w1 := ⟨by rw [e2]; exact hB.os, by rw [e3]; exact hB.tape, by rw [e4]; exact hB.output, by rw [e1]; exact hB.size, fun k hk => by rw [e1]; exact hB.block k hk⟩
          exact below_setRow hB1 (Nat.le_trans hBb hb) _
      · refine (insert_grow f hg hcs ht hx hy hlt hn hle (by omega) (cellsF_one _) hv).mono ?_
        rintro e w' ⟨G, row, rfl, h1, h2, h3, h4, h5, h6⟩
        refine ⟨_, rfl, ⟨by simp only [List.length_append]; omega, .inr ⟨w.heap.size, G, _, rfl, hbase, h3, h1, h2, by simpa using h4, by simpa using h5⟩⟩, fun B w0 hB hBb => ?_⟩
        exact hB.trans (h6.mono (Nat.le_trans hBb hbase))
end Go.Proofs.YtahamkajkkkjdaaGreatDoor
