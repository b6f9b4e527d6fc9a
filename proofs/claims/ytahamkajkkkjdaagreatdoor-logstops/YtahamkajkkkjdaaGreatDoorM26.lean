import Derived.Test.YtahamkajkkkjdaaGreatDoorM24
import Derived.Test.YtahamkajkkkjdaaGreatDoorM25
import Derived.Deep.RegionHeld3
import Derived.Lib.Bytealg
import Derived.Lib.Small
import Derived.WalkKit
import Derived.Test.YtahamkajkkkjdaaGreatDoorM23
namespace Go.Proofs.YtahamkajkkkjdaaGreatDoor
open Go.RowKit
set_option linter.unusedVariables false
set_option linter.unusedSimpArgs false
theorem mem_erase {N : List Nd} {i : Nat} {n : Nd} (h : n ∈ N.eraseIdx i) : n ∈ N := List.mem_of_mem_eraseIdx h
theorem fndN_lt {id : Int} {N : List Nd} (hf : fndN id N = true) : loN id N < N.length := by
  rcases Nat.lt_or_ge (loN id N) N.length with h | h
  · exact h
  · unfold fndN at hf; rw [List.getElem?_eq_none h] at hf; cases hf
set_option maxHeartbeats 4000000 in
set_option maxRecDepth 100000 in
theorem dropNode_no {w : World} {base p : Nat} {N : List Nd} {T : List Te} (h : OG w base p N T) (hs : SrtN N) (h60 : N.length ≤ 96) (id : Int) (hf : fndN id N = false) :
    Calls Tryz.prog 111 #[.pointer (some ⟨p, 0, none⟩), .int .i64 id] w fun e w' => e = .returned (errV 5) ∧ Below w.heap.size w w' := by
  obtain ⟨vn, vt, hbp, hpb, hN, hT⟩ := h
  have hpl : p < w.heap.size := (Array.getElem?_eq_some_iff.1 hpb).1
  obtain ⟨W0, hW0⟩ : ∃ W0, W0 = w.alloc (.cells #[.int .i64 id] 3) := ⟨_, rfl⟩
  have hB0 : Below w.heap.size w W0 := by rw [hW0]; exact b_alloc (Below.refl _ _) _
  have hi0 : W0.heap[w.heap.size]? = some (.cells #[.int .i64 id] 3 (0, 0)) := by rw [hW0]; exact heap_alloc_new w _
  have cF := fun W (hB : Below W0.heap.size W0 W) => findNode_any (hN.isN.on (on1K hB0 hB (Nat.le_refl _))) hs h60 id
  rw [hf] at cF
  obtain ⟨an, cn, hvn⟩ := own_slice hN.1
  obtain ⟨am, cm, hvt⟩ := own_slice hT
  subst hvn hvt
  have hs0 : W0.heap.size = w.heap.size + 1 := by rw [hW0]; simp
  have x0 : W0.cell? ⟨p, 0, none⟩ = some (.slice an N.length cn) := cell_at ((hB0.block p hpl).trans hpb) rfl
  have x1 : W0.cell? ⟨w.heap.size, 0, none⟩ = some (.int .i64 id) := cell_at hi0 rfl
  have HX : Hid (∀ W, Below W0.heap.size W0 W → W.cell? ⟨p, 0, none⟩ = some (.slice an N.length cn) ∧ W.cell? ⟨w.heap.size, 0, none⟩ = some (.int .i64 id)) := fun W hB => ⟨(hB.cell (by show p < _; omega)).trans x0, (hB.cell (by show w.heap.size < _; omega)).trans x1⟩
  have HB : Hid (Below w.heap.size w W0) := hB0
  clear hpb hN hT hB0 hi0 hf hs0
  generalize loN id N = lo at *
  go_enter Tryz.func111, Tryz.ntmps111
  go_wp2
  rw [← hW0]
  clear hW0
  first | (go_region_held (fun w' => w'.cell? ⟨p, 0, none⟩ = some (.slice an N.length cn) ∧ w'.cell? ⟨w.heap.size, 0, none⟩ = some (.int .i64 id)) (go_keep) (first | (go_at_call 143; refine (cF _ (b_drew (Below.refl _ W0))).mono ?_; rintro e W1 ⟨rfl, hB1'⟩; have hB1 := b_undrew hB1'; clear hB1'; obtain ⟨z0, z1⟩ := HX.out W1 hB1))) | fail
  all_goals
    go_wp2
    go_ret
    exact ⟨rfl, on1K HB.out hB1 (Nat.le_refl _)⟩
structure DnW (W : World) (base p q : Nat) (id : Int) (vn vt : Value) (N : List Nd) (T : List Te) : Prop where
  hp : W.heap[p]? = some (.cells #[vn, vt] 67 (0, 0))
  hq : W.heap[q]? = some (.cells #[.int .i64 id] 3 (0, 0))
  hN : OwnNs W base vn N
  hT : OwnTs W base vt T
theorem DnW.on {W W' : World} {base p q : Nat} {id : Int} {vn vt : Value} {N : List Nd} {T : List Te} (h : DnW W base p q id vn vt N T) (hB : Below W.heap.size W W') : DnW W' base p q id vn vt N T :=
  ⟨(hB.block p (Array.getElem?_eq_some_iff.1 h.hp).1).trans h.hp, (hB.block q (Array.getElem?_eq_some_iff.1 h.hq).1).trans h.hq, h.hN.kt (.of_below hB) (.of_below hB), h.hT.kt (.of_below hB)⟩
theorem DnW.nodes {W W' : World} {base p q : Nat} {id : Int} {vn vt vn' : Value} {N N' : List Nd} {T : List Te} (h : DnW W base p q id vn vt N T) (hg : W.grownBy W' vn.ownBlock) (hN : W'.ownsRow base 40 3 vn' N'.length (cellsN N')) (hs : ∀ n ∈ N', n ∈ N) : DnW (W'.setCell ⟨p, 0, none⟩ vn') base p q id vn' vt N' T := by
  have e1 : W'.heap[p]? = some (.cells #[vn, vt] 67 (0, 0)) := (hg.block p (Array.getElem?_eq_some_iff.1 h.hp).1 (fun e => row_apart h.hN.1 h.hp (by decide) e.symm)).trans h.hp
  have e2 : W'.heap[q]? = some (.cells #[.int .i64 id] 3 (0, 0)) := (hg.block q (Array.getElem?_eq_some_iff.1 h.hq).1 (fun e => row_apart h.hN.1 h.hq (by decide) e.symm)).trans h.hq
  have ne : q ≠ p := by
    intro e; subst e; have := h.hq; rw [h.hp] at this; injection this with e1; injection e1 with _ e2; exact absurd e2 (by decide)
  have ty : Ty W' p 67 := ⟨_, e1⟩
  have k29 : Kt 40 W' (W'.setCell ⟨p, 0, none⟩ vn') := (Kt.refl _ _).ty ty (by decide) _ _
  have k31 : Kt 46 W (W'.setCell ⟨p, 0, none⟩ vn') := (Kt.of_own h.hN.1 (by decide) hg).trans ((Kt.refl _ _).ty ty (by decide) _ _)
  have k59 : Kt 44 W (W'.setCell ⟨p, 0, none⟩ vn') := (Kt.of_own h.hN.1 (by decide) hg).trans ((Kt.refl _ _).ty ty (by decide) _ _)
  exact ⟨heap_setCell_same W' p 0 _ 67 vn' e1, (heap_setCell_other W' ⟨p, 0, none⟩ q vn' ne).trans e2, ⟨own_kt hN k29, fun n hn => (h.hN.2 n (hs n hn)).kt k59⟩, h.hT.kt k31⟩
theorem DnW.ties {W W' : World} {base p q : Nat} {id : Int} {vn vt vt' : Value} {N : List Nd} {T T' : List Te} (h : DnW W base p q id vn vt N T) (hg : W.grownBy W' vt.ownBlock) (hT : OwnTs W' base vt' T') : DnW (W'.setCell ⟨p, 1, none⟩ vt') base p q id vn vt' N T' := by
  have e1 : W'.heap[p]? = some (.cells #[vn, vt] 67 (0, 0)) := (hg.block p (Array.getElem?_eq_some_iff.1 h.hp).1 (fun e => row_apart h.hT h.hp (by decide) e.symm)).trans h.hp
  have e2 : W'.heap[q]? = some (.cells #[.int .i64 id] 3 (0, 0)) := (hg.block q (Array.getElem?_eq_some_iff.1 h.hq).1 (fun e => row_apart h.hT h.hq (by decide) e.symm)).trans h.hq
  have ne : q ≠ p := by
    intro e; subst e; have := h.hq; rw [h.hp] at this; injection this with e1; injection e1 with _ e2; exact absurd e2 (by decide)
  have ty : Ty W' p 67 := ⟨_, e1⟩
  have k31 : Kt 46 W' (W'.setCell ⟨p, 1, none⟩ vt') := (Kt.refl _ _).ty ty (by decide) _ _
  have k29 : Kt 40 W (W'.setCell ⟨p, 1, none⟩ vt') := (Kt.of_own h.hT (by decide) hg).trans ((Kt.refl _ _).ty ty (by decide) _ _)
  have k59 : Kt 44 W (W'.setCell ⟨p, 1, none⟩ vt') := (Kt.of_own h.hT (by decide) hg).trans ((Kt.refl _ _).ty ty (by decide) _ _)
  exact ⟨heap_setCell_same W' p 1 _ 67 vt' e1, (heap_setCell_other W' ⟨p, 1, none⟩ q vt' ne).trans e2, h.hN.kt k29 k59, hT.kt k31⟩
theorem DnW.og {W : World} {base p q : Nat} {id : Int} {vn vt : Value} {N : List Nd} {T : List Te} (h : DnW W base p q id vn vt N T) (hb : base ≤ p) : OG W base p N T := ⟨vn, vt, hb, h.hp, h.hN, h.hT⟩
theorem below_row {B base : Nat} {w0 w w' : World} {e : TypeId} {size n : Nat} {v : Value} {xs : List Value} (h : Below B w0 w) (ho : w.ownsRow base e size v n xs) (hg : w.grownBy w' v.ownBlock) (hle : B ≤ base) (hw : B ≤ w.heap.size) : Below B w0 w' :=
  below_grown h hg hw (fun k hk => Nat.le_trans hle (ho.lt k hk).1)
set_option maxHeartbeats 4000000 in
set_option maxRecDepth 100000 in
theorem dropNode_ok {w : World} {base p : Nat} {N : List Nd} {T : List Te} (h : OG w base p N T) (hbw : base ≤ w.heap.size) (hs : SrtN N) (h60 : N.length ≤ 96) (h120 : T.length ≤ 1000) (id : Int) (hf : fndN id N = true) :
    Calls Tryz.prog 111 #[.pointer (some ⟨p, 0, none⟩), .int .i64 id] w fun e w' => e = .returned .nilIface ∧ OG w' base p (N.eraseIdx (loN id N)) (T.filter (keepT id)) ∧ Below base w w' := by
  obtain ⟨vn, vt, hbp, hpb, hN, hT⟩ := h
  have hpl : p < w.heap.size := (Array.getElem?_eq_some_iff.1 hpb).1
  obtain ⟨W0, hW0⟩ : ∃ W0, W0 = w.alloc (.cells #[.int .i64 id] 3) := ⟨_, rfl⟩
  have hB0 : Below w.heap.size w W0 := by rw [hW0]; exact b_alloc (Below.refl _ _) _
  have hi0 : W0.heap[w.heap.size]? = some (.cells #[.int .i64 id] 3 (0, 0)) := by rw [hW0]; exact heap_alloc_new w _
  have hlt := fndN_lt hf
  have cF := fun W (hB : Below W0.heap.size W0 W) => findNode_any (hN.isN.on (on1K hB0 hB (Nat.le_refl _))) hs h60 id
  rw [hf] at cF
  have hD0 : DnW W0 base p w.heap.size id vn vt N T := ⟨(hB0.block p hpl).trans hpb, hi0, hN.kt (.of_below hB0) (.of_below hB0), hT.kt (.of_below hB0)⟩
  obtain ⟨an, cn, hvn⟩ := own_slice hN.1
  obtain ⟨am, cm, hvt⟩ := own_slice hT
  subst hvn hvt
  have hs0 : W0.heap.size = w.heap.size + 1 := by rw [hW0]; simp
  have x0 : W0.cell? ⟨p, 0, none⟩ = some (.slice an N.length cn) := cell_at hD0.hp rfl
  have x1 : W0.cell? ⟨w.heap.size, 0, none⟩ = some (.int .i64 id) := cell_at hi0 rfl
  have HX : Hid (∀ W, Below W0.heap.size W0 W → W.cell? ⟨p, 0, none⟩ = some (.slice an N.length cn) ∧ W.cell? ⟨w.heap.size, 0, none⟩ = some (.int .i64 id)) := fun W hB => ⟨(hB.cell (by show p < _; omega)).trans x0, (hB.cell (by show w.heap.size < _; omega)).trans x1⟩
  have HB : Hid (Below w.heap.size w W0 ∧ DnW W0 base p w.heap.size id (.slice an N.length cn) (.slice am T.length cm) N T) := ⟨hB0, hD0⟩
  clear hpb hN hT hB0 hi0 hf hD0
  generalize loN id N = lo at *
  have hlw : IntKind.i64.wrap ((lo : Int) + 1) = (lo : Int) + 1 := by rw [IntKind.wrap_i64]; omega
  go_enter Tryz.func111, Tryz.ntmps111
  go_wp2
  rw [← hW0]
  clear hW0
  first | (go_region_held (fun w' => w'.cell? ⟨p, 0, none⟩ = some (.slice an N.length cn) ∧ w'.cell? ⟨w.heap.size, 0, none⟩ = some (.int .i64 id)) (go_keep) (first | (go_at_call 143; refine (cF _ (b_drew (Below.refl _ W0))).mono ?_; rintro e W1 ⟨rfl, hB1'⟩; have hB1 := b_undrew hB1'; clear hB1'; obtain ⟨z0, z1⟩ := HX.out W1 hB1))) | fail
  all_goals
    have D1 := HB.out.2.on hB1
    have cD := deleteN_any D1.hN.1 (nd_one D1.hN.sl) (by omega) lo hlt
    have HB1 : Hid (Below w.heap.size w W1 ∧ DnW W1 base p w.heap.size id (.slice an N.length cn) (.slice am T.length cm) N T) := ⟨on1K HB.out.1 hB1 (Nat.le_refl _), D1⟩
    clear D1 hB1 cF HX HB
    go_wp2_with (first | (go_at_call 145; refine cD.mono ?_; rintro e W2 ⟨v2, rfl, ho2, hg2⟩; refine Hid.out ?_))
    refine Lib.hid ?_
    obtain ⟨a2, c2, hv2⟩ := own_slice ho2
    subst hv2
    have D2 := DnW.nodes HB1.out.2 hg2 ho2 (fun n hn => mem_erase hn)
    have hb2 : Below base w W2 := below_row (HB1.out.1.mono hbw) HB1.out.2.hN.1 hg2 (Nat.le_refl _) (Nat.le_trans hbw HB1.out.1.size)
    have hp2 : W2.heap[p]? = some (.cells #[.slice an N.length cn, .slice am T.length cm] 67 (0, 0)) := (hg2.block p (Array.getElem?_eq_some_iff.1 HB1.out.2.hp).1 (fun e => row_apart HB1.out.2.hN.1 HB1.out.2.hp (by decide) e.symm)).trans HB1.out.2.hp
    have hq2 : W2.heap[w.heap.size]? = some (.cells #[.int .i64 id] 3 (0, 0)) := (hg2.block _ (Array.getElem?_eq_some_iff.1 HB1.out.2.hq).1 (fun e => row_apart HB1.out.2.hN.1 HB1.out.2.hq (by decide) e.symm)).trans HB1.out.2.hq
    have y0 : W2.cell? ⟨p, 0, none⟩ = some (.slice an N.length cn) := cell_at hp2 rfl
    have y1 : W2.cell? ⟨p, 1, none⟩ = some (.slice am T.length cm) := cell_at hp2 rfl
    have g0 : W2.frozen? ⟨p, 0, none⟩ = false := frz_at hp2
    have cE := deleteFunc_any D2.hT h120 w.heap.size id (Array.getElem?_eq_some_iff.1 D2.hq).1 (cell_at D2.hq rfl) (row_apart D2.hT D2.hq (by decide))
    have HB2 : Hid (Below base w (W2.setCell ⟨p, 0, none⟩ (.slice a2 (N.eraseIdx lo).length c2)) ∧ DnW (W2.setCell ⟨p, 0, none⟩ (.slice a2 (N.eraseIdx lo).length c2)) base p w.heap.size id (.slice a2 (N.eraseIdx lo).length c2) (.slice am T.length cm) (N.eraseIdx lo) T) := ⟨hb2.setCell hbp _, D2⟩
    generalize (N.eraseIdx lo).length = nl at *
    clear D2 hb2 hp2 hq2 ho2 hg2 cD z0 z1
    go_wp2_with (first | (go_at_call 146; refine cE.mono ?_; rintro e W3 ⟨v3, rfl, ho3, hg3⟩; refine Hid.out ?_))
    refine Lib.hid ?_
    obtain ⟨a3, c3, hv3⟩ := own_slice ho3
    subst hv3
    have D3 := DnW.ties HB2.out.2 hg3 ho3
    have hb3 : Below base w W3 := below_row HB2.out.1 HB2.out.2.hT hg3 (Nat.le_refl _) (Nat.le_trans hbw HB2.out.1.size)
    have hp3 : W3.heap[p]? = some (.cells #[.slice a2 nl c2, .slice am T.length cm] 67 (0, 0)) := (hg3.block p (Array.getElem?_eq_some_iff.1 HB2.out.2.hp).1 (fun e => row_apart HB2.out.2.hT HB2.out.2.hp (by decide) e.symm)).trans HB2.out.2.hp
    have t1 : W3.cell? ⟨p, 1, none⟩ = some (.slice am T.length cm) := cell_at hp3 rfl
    have g1 : W3.frozen? ⟨p, 1, none⟩ = false := frz_at hp3
    have HB3 : Hid (Below base w (W3.setCell ⟨p, 1, none⟩ (.slice a3 (T.filter (keepT id)).length c3)) ∧ DnW (W3.setCell ⟨p, 1, none⟩ (.slice a3 (T.filter (keepT id)).length c3)) base p w.heap.size id (.slice a2 nl c2) (.slice a3 (T.filter (keepT id)).length c3) (N.eraseIdx lo) (T.filter (keepT id))) := ⟨hb3.setCell hbp _, D3⟩
    clear D3 hb3 hp3 ho3 hg3 cE y0 y1 g0
    generalize (T.filter (keepT id)).length = tl at *
    go_wp2
    go_ret
    exact ⟨rfl, HB3.out.2.og hbp, HB3.out.1⟩
theorem cmpB_range (a b : List UInt8) : Lib.compareBytes a b = -1 ∨ Lib.compareBytes a b = 0 ∨ Lib.compareBytes a b = 1 := by
  induction a generalizing b with
  | nil => cases b <;> simp [Lib.compareBytes]
  | cons c r ih =>
    cases b with
    | nil => simp [Lib.compareBytes]
    | cons d q =>
      simp only [Lib.compareBytes]
      split
      · simp
      · split
        · simp
        · exact ih q
theorem cmpB_anti (a b : List UInt8) : Lib.compareBytes b a = -Lib.compareBytes a b := by
  induction a generalizing b with
  | nil => cases b <;> simp [Lib.compareBytes]
  | cons c r ih =>
    cases b with
    | nil => simp [Lib.compareBytes]
    | cons d q =>
      simp only [Lib.compareBytes]
      by_cases h1 : c < d
      · have h2 : ¬ d < c := by rw [UInt8.lt_iff_toNat_lt] at *; omega
        simp [h1, h2]
      · by_cases h2 : d < c
        · simp [h1, h2]
        · simp [h1, h2, ih q]
theorem cmpB_zero (a b : List UInt8) : Lib.compareBytes a b = 0 ↔ a = b := by
  induction a generalizing b with
  | nil => cases b <;> simp [Lib.compareBytes]
  | cons c r ih =>
    cases b with
    | nil => simp [Lib.compareBytes]
    | cons d q =>
      simp only [Lib.compareBytes]
      by_cases h1 : c < d
      · have hne : ¬ c = d := by intro e; rw [e, UInt8.lt_iff_toNat_lt] at h1; omega
        simp [h1, hne]
      · by_cases h2 : d < c
        · have hne : ¬ c = d := by intro e; rw [e, UInt8.lt_iff_toNat_lt] at h2; omega
          simp [h1, h2, hne]
        · have he : c = d := by rw [UInt8.lt_iff_toNat_lt] at h1 h2; exact UInt8.toNat_inj.1 (by omega)
          simp [h1, h2, ih q, he]
theorem cmpB_trans (a b c : List UInt8) (h1 : Lib.compareBytes a b ≤ 0) (h2 : Lib.compareBytes b c ≤ 0) : Lib.compareBytes a c ≤ 0 := by
  induction a generalizing b c with
  | nil => cases c <;> simp [Lib.compareBytes]
  | cons x r ih =>
    cases b with
    | nil => simp [Lib.compareBytes] at h1
    | cons y q =>
      cases c with
      | nil => simp [Lib.compareBytes] at h2
      | cons z p =>
        simp only [Lib.compareBytes] at h1 h2 ⊢
        simp only [UInt8.lt_iff_toNat_lt] at *
        by_cases a1 : x.toNat < y.toNat
        · by_cases b1 : y.toNat < z.toNat
          · rw [if_pos (by omega)]; decide
          · by_cases b2 : z.toNat < y.toNat
            · rw [if_neg b1, if_pos b2] at h2; simp at h2
            · rw [if_pos (by omega)]; decide
        · by_cases a2 : y.toNat < x.toNat
          · rw [if_neg a1, if_pos a2] at h1; simp at h1
          · rw [if_neg a1, if_neg a2] at h1
            by_cases b1 : y.toNat < z.toNat
            · rw [if_pos (by omega)]; decide
            · by_cases b2 : z.toNat < y.toNat
              · rw [if_neg b1, if_pos b2] at h2; simp at h2
              · rw [if_neg b1, if_neg b2] at h2
                rw [if_neg (by omega), if_neg (by omega)]
                exact ih q p h1 h2
theorem less_cmp (a : List UInt8) : ∀ b, Op.bytesLess a b = decide (Lib.compareBytes a b < 0) := by
  induction a with
  | nil => intro b; cases b <;> simp [Op.bytesLess, Lib.compareBytes]
  | cons c r ih =>
    intro b
    cases b with
    | nil => simp [Op.bytesLess, Lib.compareBytes]
    | cons d q =>
      simp only [Op.bytesLess, Lib.compareBytes]
      by_cases h1 : c < d
      · simp [h1]
      · by_cases h2 : d < c
        · have hne : ¬ c = d := by intro e; rw [e, UInt8.lt_iff_toNat_lt] at h2; omega
          simp [h1, h2, hne]
        · have he : c = d := by rw [UInt8.lt_iff_toNat_lt] at h1 h2; exact UInt8.toNat_inj.1 (by omega)
          simp [h1, h2, he, ih q]
def CpI (W0 : World) (p : Nat) (vt : Value) (N : List Nd) (T : List Te) (k : Nat) (wr : World) : Prop := ∃ (M : List Nd) (vn : Value), M.length = k ∧ cN M = cN (N.take k) ∧ wr.heap[p]? = some (.cells #[vn, vt] 67 (0, 0)) ∧ OwnNs wr W0.heap.size vn M ∧ OwnTs wr W0.heap.size vt T ∧ Below W0.heap.size W0 wr
theorem cpI_step {W0 wr W2 w1 : World} {p k : Nat} {vn vt v2 v1 : Value} {N M : List Nd} {T : List Te} {n : Nd} (hp : W0.heap.size ≤ p) (hn : N[k]? = some n) (hM : M.length = k) (hc : cN M = cN (N.take k)) (hX : wr.heap[p]? = some (.cells #[vn, vt] 67 (0, 0))) (hN : OwnNs wr W0.heap.size vn M) (hT : OwnTs wr W0.heap.size vt T) (hB : Below W0.heap.size W0 wr)
    (hB2 : Below wr.heap.size wr W2) (hR : OwnRc W2 wr.heap.size v2 n.rc) (hg : (W2.alloc (.cells #[.int .i64 n.id, .string n.kd, v2] 40)).grownBy w1 vn.ownBlock) (ho : w1.ownsRow W0.heap.size 40 3 v1 (k + 1) (cellsN M ++ [.int .i64 n.id, .string n.kd, v2])) :
    (w1.cell? ⟨p, 0, none⟩ = some vn ∧ w1.frozen? ⟨p, 0, none⟩ = false) ∧ CpI W0 p vt N T (k + 1) (w1.setCell ⟨p, 0, none⟩ v1) := by
  have hBa : Below wr.heap.size wr (W2.alloc (.cells #[.int .i64 n.id, .string n.kd, v2] 40)) := on1K hB2 (b_alloc (Below.refl _ _) _) (Nat.le_refl _)
  have hNa := own_kt hN.1 (Kt.of_below hBa)
  have hXa := (hBa.block p (Array.getElem?_eq_some_iff.1 hX).1).trans hX
  have hX1 := (hg.block p (Array.getElem?_eq_some_iff.1 hXa).1 (fun e => row_apart hNa hXa (by decide) e.symm)).trans hXa
  have k40 : Kt 44 wr (w1.setCell ⟨p, 0, none⟩ v1) := ((Kt.of_below hBa).trans (.of_own hNa (by decide) hg)).set hX1 (by decide) _ _
  have k54 : Kt 46 wr (w1.setCell ⟨p, 0, none⟩ v1) := ((Kt.of_below hBa).trans (.of_own hNa (by decide) hg)).set hX1 (by decide) _ _
  have k40' : Kt 44 W2 (w1.setCell ⟨p, 0, none⟩ v1) := (((Kt.refl _ _).alloc _).trans (.of_own hNa (by decide) hg)).set hX1 (by decide) _ _
  refine ⟨⟨cell_at hX1 rfl, frz_at hX1⟩, M ++ [⟨n.id, n.kd, v2, n.rc⟩], v1, by simp [hM], ?_, (heap_setCell_same w1 p 0 _ 67 _ hX1).trans rfl, ⟨?_, fun x hx => ?_⟩, hT.kt k54, ?_⟩
  · have e : N.take (k + 1) = N.take k ++ [n] := by rw [List.take_add_one, hn]; rfl
    unfold cN at *
    rw [e, List.map_append, List.map_append, hc]
    rfl
  · rw [List.length_append, hM, cellsN_snoc]
    exact own_set ho (row_apart ho hX1 (by decide)) _ _
  · rcases List.mem_append.1 hx with hx | hx
    · exact (hN.2 x hx).kt k40
    · obtain rfl : x = ⟨n.id, n.kd, v2, n.rc⟩ := by simpa using hx
      exact OwnRc.kt (own_base hR hB.size) k40'
  · exact (below_grown (on1K hB hBa (Nat.le_refl _)) hg (Nat.le_trans hB.size hBa.size) (fun g hg' => (hNa.lt g hg').1)).setCell (p := ⟨p, 0, none⟩) hp _
set_option maxHeartbeats 4000000 in
set_option maxRecDepth 100000 in
theorem copied_any {vn vt : Value} {N : List Nd} {T : List Te} {w : World} (hN : IsN w vn N) (hT : IsT w vt T) (h60 : N.length ≤ 60) (h120 : T.length ≤ 120) (h8 : ∀ n ∈ N, n.rc.length ≤ 1000) :
    Calls Tryz.prog 76 #[.agg #[vn, vt]] w fun e w' => ∃ un ut M, e = .returned (.agg #[un, ut]) ∧ cN M = cN N ∧ OwnNs w' w.heap.size un M ∧ OwnTs w' w.heap.size ut T ∧ Below w.heap.size w w' := by
  obtain ⟨i0, hi0, hz0, hz1, hz2⟩ := info_parts infoN
  obtain ⟨W0, hW0⟩ : ∃ W0, W0 = (w.alloc (.cells #[vn, vt] 67)).alloc (.cells #[.slice none 0 0, .slice none 0 0] 67) := ⟨_, rfl⟩
  have hB0 : Below w.heap.size w W0 := by rw [hW0]; exact b_alloc (b_alloc (Below.refl _ _) _) _
  have hs0 : W0.heap.size = w.heap.size + 2 := by rw [hW0]; simp
  have n0 : W0.heap[w.heap.size]? = some (.cells #[vn, vt] 67 (0, 0)) := by rw [hW0]; exact (heap_alloc_old _ _ (by simp)).trans (heap_alloc_new w _)
  have n1 : W0.heap[w.heap.size + 1]? = some (.cells #[.slice none 0 0, .slice none 0 0] 67 (0, 0)) := by
    have := heap_alloc_new (w.alloc (.cells #[vn, vt] 67)) (.cells #[.slice none 0 0, .slice none 0 0] 67)
    rw [World.size_alloc] at this; rw [hW0]; exact this
  have clT := fun (ty : TypeId) => clone_ties W0 W0.heap.size (Nat.le_refl _) (hT.on hB0) (by omega) ty
  have HH : Hid (Below w.heap.size w W0 ∧ W0.heap.size = w.heap.size + 2 ∧ W0.heap[w.heap.size]? = some (.cells #[vn, vt] 67 (0, 0)) ∧ W0.heap[w.heap.size + 1]? = some (.cells #[.slice none 0 0, .slice none 0 0] 67 (0, 0)) ∧ IsN w vn N) := ⟨hB0, hs0, n0, n1, hN⟩
  obtain ⟨an, cn, rfl, _⟩ := hN
  obtain ⟨am, cm, rfl, _⟩ := hT
  have c1 : W0.cell? ⟨w.heap.size, 1, none⟩ = some (.slice am T.length cm) := cell_at n0 rfl
  clear hB0 n0 n1 hs0
  go_enter Tryz.func76, Tryz.ntmps76
  go_upto_region 1 with fail
  rw [← hW0]
  clear hW0
  go_wp2_with (first | (at_builtin; refine wpList_append_E rfl _ _ 65 rfl _ _ rfl rfl (clT _) ?_; rintro v1 w1 ⟨hown, hgrow⟩; refine Hid.out ?_))
  refine Lib.hid ?_
  obtain ⟨a2, p2, rfl⟩ := own_slice hown
  have hb1 := grown_below hgrow
  obtain ⟨Wc, hWc⟩ : ∃ Wc, Wc = w1.alloc (.cells #[.slice none 0 0, .slice a2 T.length p2] 67) := ⟨_, rfl⟩
  have nc : Wc.heap[w1.heap.size]? = some (.cells #[.slice none 0 0, .slice a2 T.length p2] 67 (0, 0)) := by rw [hWc]; exact heap_alloc_new w1 _
  have hBc : Below W0.heap.size W0 Wc := by rw [hWc]; exact b_alloc hb1 _
  have HI0 : Hid (CpI W0 w1.heap.size (.slice a2 T.length p2) N T 0 Wc ∧ W0.heap.size ≤ w1.heap.size) := ⟨⟨[], .slice none 0 0, rfl, rfl, nc, ⟨World.ownsRow_nil _ _ _ _, fun n hn => by cases hn⟩, by rw [hWc]; exact World.ownsRow.alloc hown _, hBc⟩, hb1.size⟩
  have c0 : Wc.cell? ⟨w.heap.size, 0, none⟩ = some (.slice an N.length cn) := cell_at ((hBc.block _ (by have := HH.out.2.1; omega)).trans HH.out.2.2.1) rfl
  have HWc := Lib.hid hWc
  clear hown hgrow hb1 nc hBc hWc clT c1
  go_upto_region 2 with fail
  rw [← HWc.out]
  go_wp2
  go_loopw [13] (fun i wr => ∃ k : Nat, k ≤ N.length ∧ i = .int .i64 k ∧ CpI W0 w1.heap.size (.slice a2 T.length p2) N T k wr) (fun i _ => N.length - (intOf i).toNat)
  case atStart => exact ⟨0, Nat.zero_le _, rfl, HI0.out.1⟩
  case round =>
    obtain ⟨k, hk, rfl, hC⟩ := hrel
    obtain ⟨M, vm, hM, hcN, hX, hNs, hTs, hB⟩ := hC
    obtain ⟨a1, p1, e1⟩ := own_slice hNs.1
    rw [hM] at e1
    subst e1
    by_cases hlt : k < N.length
    · obtain ⟨n, hn⟩ : ∃ n, N[k]? = some n := ⟨N[k], by simp [hlt]⟩
      have hbw := on1K HH.out.1 hB (Nat.le_refl _)
      obtain ⟨b, off, ean, hbl, ⟨d0, d1, d2⟩, hR0⟩ : ∃ b off, an = some ⟨b, off, none⟩ ∧ b < w.heap.size ∧ (w.cell? ⟨b, off + k * 3, none⟩ = some (.int .i64 n.id) ∧ w.cell? ⟨b, off + k * 3 + 1, none⟩ = some (.string n.kd) ∧ w.cell? ⟨b, off + k * 3 + 2, none⟩ = some n.rv) ∧ IsR w n.rv n.rc := by
        obtain ⟨a', c', e, hle, h0 | ⟨b, off, e2, hb, hL⟩⟩ := HH.out.2.2.2.2
        · rw [h0] at hlt; simp at hlt
        · injection e with e _ _
          obtain ⟨q0, q1, q2, q3⟩ := hL k n hn
          exact ⟨b, off, e.trans e2, hb, ⟨q0, q1, q2⟩, q3⟩
      subst ean
      have d0 := (hbw.cell (p := ⟨b, off + k * 3, none⟩) hbl).trans d0
      have d1 := (hbw.cell (p := ⟨b, off + k * 3 + 1, none⟩) hbl).trans d1
      have d2 := (hbw.cell (p := ⟨b, off + k * 3 + 2, none⟩) hbl).trans d2
      have hRn := h8 n (List.mem_of_getElem? hn)
      obtain ⟨av, lv, cv, hv⟩ := hR0.sl
      obtain ⟨id, kd, rv, rc⟩ := n
      simp only at hv d0 d1 d2 hRn hR0
      subst hv
      obtain ⟨W1, hW1⟩ : ∃ W1, W1 = wr.alloc (.cells #[.int .i64 id, .string kd, .slice av lv cv] 40) := ⟨_, rfl⟩
      have hB1 : Below wr.heap.size wr W1 := by rw [hW1]; exact b_alloc (Below.refl _ _) _
      have nn : W1.heap[wr.heap.size]? = some (.cells #[.int .i64 id, .string kd, .slice av lv cv] 40 (0, 0)) := by rw [hW1]; exact heap_alloc_new wr _
      have cc := copiedNode_any ⟨id, kd, .slice av lv cv, rc⟩ W1.drew (hR0.on (on1K hbw (b_drew hB1) (Nat.le_refl _))) hRn
      have x0 : W1.drew.cell? ⟨w1.heap.size, 0, none⟩ = some (.slice a1 k p1) := (hB1.cell (p := ⟨w1.heap.size, 0, none⟩) (Array.getElem?_eq_some_iff.1 hX).1).trans (cell_at hX rfl)
      have e0 : W1.drew.cell? ⟨wr.heap.size, 0, none⟩ = some (.int .i64 id) := cell_at (w := W1) nn rfl
      have e1 : W1.drew.cell? ⟨wr.heap.size, 1, none⟩ = some (.string kd) := cell_at (w := W1) nn rfl
      have e2 : W1.drew.cell? ⟨wr.heap.size, 2, none⟩ = some (.slice av lv cv) := cell_at (w := W1) nn rfl
      have HP : Hid (∀ W2, Below W1.drew.heap.size W1.drew W2 → Below wr.heap.size wr W2 ∧ W2.cell? ⟨w1.heap.size, 0, none⟩ = some (.slice a1 k p1) ∧ ∀ o, (W2.alloc o).cell? ⟨w1.heap.size, 0, none⟩ = some (.slice a1 k p1)) := fun W2 h2 => by
        have h := on1K hB1 (b_undrew h2) (Nat.le_refl _)
        have hc := (h.cell (p := ⟨w1.heap.size, 0, none⟩) (Array.getElem?_eq_some_iff.1 hX).1).trans (cell_at hX rfl)
        exact ⟨h, hc, cell_old hc⟩
      have HO : Hid (∀ W2 v2, Below wr.heap.size wr W2 → (W2.alloc (.cells #[.int .i64 id, .string kd, v2] 40)).ownsRow W0.heap.size 40 3 (.slice a1 k p1) k (cellsN M) ∧ W0.heap.size ≤ (W2.alloc (.cells #[.int .i64 id, .string kd, v2] 40)).heap.size) := fun W2 v2 h2 => by
        have hBa := on1K h2 (b_alloc (Below.refl _ W2) (.cells #[.int .i64 id, .string kd, v2] 40)) (Nat.le_refl _)
        have := own_kt hNs.1 (Kt.of_below (t := 40) hBa)
        rw [hM] at this
        exact ⟨this, Nat.le_trans hB.size hBa.size⟩
      have HSt : Hid (∀ W2 v2 w3 v1, Below wr.heap.size wr W2 → OwnRc W2 wr.heap.size v2 rc → (W2.alloc (.cells #[.int .i64 id, .string kd, v2] 40)).grownBy w3 (Value.slice a1 k p1).ownBlock → w3.ownsRow W0.heap.size 40 3 v1 (k + 1) (cellsN M ++ [.int .i64 id, .string kd, v2]) → (w3.cell? ⟨w1.heap.size, 0, none⟩ = some (.slice a1 k p1) ∧ w3.frozen? ⟨w1.heap.size, 0, none⟩ = false) ∧ CpI W0 w1.heap.size (.slice a2 T.length p2) N T (k + 1) (w3.setCell ⟨w1.heap.size, 0, none⟩ v1)) := fun W2 v2 w3 v1 q1 q2 q3 q4 => cpI_step HI0.out.2 hn hM hcN hX hNs hTs hB q1 q2 q3 q4
      have HM : Hid (k + 1 ≤ maxLen ∧ (k + 1) * 48 ≤ 140737488355328) := by unfold maxLen; exact ⟨by omega, by omega⟩
      have hzw : Hid (wr.heap.size ≤ W1.drew.heap.size) := hB1.size
      have HW1 := Lib.hid hW1
      have hnb : ¬ b = wr.heap.size := by have := hbw.size; omega
      clear hM hcN hX hNs hTs hB hR0 hRn hbw hB1 nn hn hW1 hbl
      go_upto_region 5 with fail
      rw [← HW1.out]
      go_region_law (first | (go_simp; go_at_call 109; refine cc.mono ?_; rintro e W2 ⟨v2, rfl, hR2, hB2⟩; obtain ⟨hb2, y0, y1⟩ := HP.out W2 hB2; obtain ⟨u2, l2, q2, rfl⟩ := OwnRc.sl hR2; have HR2 : Hid (OwnRc W2 wr.heap.size (.slice u2 l2 q2) rc ∧ Below wr.heap.size wr W2) := ⟨own_base hR2 hzw.out, hb2⟩; clear hR2 hB2 hb2) | (refine step_append_own rfl (.tmp 18) (.tmp 21) 64 rfl W0.heap.size 40 i0 _ 3 48 Tryz.underlying64 hi0 hz0 hz1 hz2 rfl (by decide) (.slice a1 k p1) k (cellsN M) (by simp [Act.eval, Act.put]) (HO.out W2 _ HR2.out.2).1 ⟨W2.heap.size, 0, none⟩ 1 1 [.int .i64 id, .string kd, .slice u2 l2 q2] (by simp [Act.eval, Act.put]) rfl (new_at _ _ _) (by simp [Value.oneCell']) HM.out.1 HM.out.2 (HO.out W2 _ HR2.out.2).2 ?_; intro v1 w3 hown1 hgrow1; obtain ⟨⟨z0, z1⟩, hcp⟩ := HSt.out W2 _ w3 v1 HR2.out.2 HR2.out.1 hgrow1 hown1; obtain ⟨a3, c3, rfl⟩ := own_slice hown1; have HCp := Lib.hid hcp; clear hcp hown1 hgrow1))
      all_goals
        go_wp2
        refine ⟨?_, ?_⟩
        · first | exact ⟨k + 1, by omega, by go_num, HCp.out⟩ | ((repeat apply Exists.intro); refine ⟨?_, rfl⟩; exact ⟨k + 1, by omega, by go_num, HCp.out⟩)
        · simp [intOf]
          try omega
    · obtain rfl : k = N.length := by omega
      rw [List.take_length] at hcN
      have hr1 := (hB.block _ (by have := HH.out.2.1; omega)).trans HH.out.2.2.2.1
      have HF : Hid (cN M = cN N ∧ OwnNs wr W0.heap.size (.slice a1 N.length p1) M ∧ OwnTs wr W0.heap.size (.slice a2 T.length p2) T ∧ Below w.heap.size w wr ∧ Ty wr (w.heap.size + 1) 67) := ⟨hcN, hNs, hTs, on1K HH.out.1 hB (Nat.le_refl _), _, hr1⟩
      have e0 : wr.cell? ⟨w1.heap.size, 0, none⟩ = some (.slice a1 N.length p1) := cell_at hX rfl
      have e1 : wr.cell? ⟨w1.heap.size, 1, none⟩ = some (.slice a2 T.length p2) := cell_at hX rfl
      have r0 : wr.cell? ⟨w.heap.size + 1, 0, none⟩ = some (.slice none 0 0) := cell_at hr1 rfl
      have r1 : wr.cell? ⟨w.heap.size + 1, 1, none⟩ = some (.slice none 0 0) := cell_at hr1 rfl
      have s0 : wr.frozen? ⟨w.heap.size + 1, 0, none⟩ = false := frz_at hr1
      have s1 : wr.frozen? ⟨w.heap.size + 1, 1, none⟩ = false := frz_at hr1
      have t1 : ((wr.setCell ⟨w.heap.size + 1, 0, none⟩ (.slice a1 N.length p1)).setCell ⟨w.heap.size + 1, 1, none⟩ (.slice a2 T.length p2)).heap[w.heap.size + 1]? = some (.cells #[.slice a1 N.length p1, .slice a2 T.length p2] 67 (0, 0)) := heap_setCell_same _ _ 1 _ 67 _ (heap_setCell_same wr _ 0 _ 67 _ hr1)
      have HT : Hid (((wr.setCell ⟨w.heap.size + 1, 0, none⟩ (.slice a1 N.length p1)).setCell ⟨w.heap.size + 1, 1, none⟩ (.slice a2 T.length p2)).cell? ⟨w.heap.size + 1, 0, none⟩ = some (.slice a1 N.length p1) ∧ ((wr.setCell ⟨w.heap.size + 1, 0, none⟩ (.slice a1 N.length p1)).setCell ⟨w.heap.size + 1, 1, none⟩ (.slice a2 T.length p2)).cell? ⟨w.heap.size + 1, 1, none⟩ = some (.slice a2 T.length p2)) := ⟨cell_at t1 rfl, cell_at t1 rfl⟩
      clear hcN hX hNs hTs hB hr1 t1 hk
      go_wp2
      obtain ⟨f1, f2, f3, f4, f5⟩ := HF.out
      obtain ⟨t0, t1⟩ := HT.out
      have hs0' : w.heap.size ≤ W0.heap.size := HH.out.1.size
      refine bodyPost_ret (v := .agg #[.slice a1 N.length p1, .slice a2 T.length p2]) ?_ rfl ⟨_, _, M, rfl, f1, ?_, ?_, ?_⟩
      · simp [results, Tryz.results76, go_sem, t0, t1]
      · exact ⟨own_base (own_kt f2.1 (((Kt.refl _ _).ty f5 (by decide) _ _).ty (f5.set _ _ _) (by decide) _ _)) hs0', fun n hn => own_base ((f2.2 n hn).kt (((Kt.refl _ _).ty f5 (by decide) _ _).ty (f5.set _ _ _) (by decide) _ _)) hs0'⟩
      · exact own_base (f3.kt (((Kt.refl _ _).ty f5 (by decide) _ _).ty (f5.set _ _ _) (by decide) _ _)) hs0'
      · exact (f4.setCell (by show _ ≤ w.heap.size + 1; omega) _).setCell (by show _ ≤ w.heap.size + 1; omega) _
end Go.Proofs.YtahamkajkkkjdaaGreatDoor
