/-
  The walk of Index.put.
-/
import Derived.Test.YtifhigajonafdaaGreatS37
import Derived.Test.YtifhigajonafdaaGreatS32
namespace Go.Proofs.YtifhigajonafdaaGreat
open Go.RowKit
open Go.Maps (Keyed)
set_option linter.unusedVariables false
set_option linter.unusedSimpArgs false

theorem grown_set1 (W : World) (b i : Nat) (u : Value) : W.grownBy (W.setCell ⟨b, i, none⟩ u) (some b) :=
  ⟨rfl, rfl, rfl, by simp, fun k _ hne => Below.heap_setCell _ _ _ k (fun e => hne (by rw [e]))⟩
theorem ix_set5 {W1 : World} {b s m1 m2 m3 : Nat} {vk vb x3 x4 x5 x6 x7 vn vt : Value} (g0 : W1.heap[b]? = some (.cells #[vk, vb, .map (some s), x3, x4, x5, x6, x7] 104 (0, 0))) {W2 : World} (hW : W2 = ((((W1.setCell ⟨b, 3, none⟩ vn).setCell ⟨b, 4, none⟩ vt).setCell ⟨b, 5, none⟩ (.map (some m1))).setCell ⟨b, 6, none⟩ (.map (some m2))).setCell ⟨b, 7, none⟩ (.map (some m3))) :
    IxC W2 b vk vb vn vt s m1 m2 m3 ∧ (∀ m, m ≠ b → W2.heap[m]? = W1.heap[m]?) ∧ (∀ t, t ≠ 104 → Kt t W1 W2) ∧ W1.grownBy W2 (some b) := by
  subst hW
  have hg : W1.grownBy (((((W1.setCell ⟨b, 3, none⟩ vn).setCell ⟨b, 4, none⟩ vt).setCell ⟨b, 5, none⟩ (.map (some m1))).setCell ⟨b, 6, none⟩ (.map (some m2))).setCell ⟨b, 7, none⟩ (.map (some m3))) (some b) :=
    grown_trans (grown_trans (grown_trans (grown_trans (grown_set1 _ _ _ _) (grown_set1 _ _ _ _)) (grown_set1 _ _ _ _)) (grown_set1 _ _ _ _)) (grown_set1 _ _ _ _)
  refine ⟨?_, fun m hm => ?_, fun t ht => Kt.of_grown g0 (fun e => ht e.symm) hg, hg⟩
  · exact heap_setCell_same _ _ 7 _ 104 _ (heap_setCell_same _ _ 6 _ 104 _ (heap_setCell_same _ _ 5 _ 104 _ (heap_setCell_same _ _ 4 _ 104 _ (heap_setCell_same W1 _ 3 _ 104 _ g0))))
  · exact (Below.heap_setCell _ _ _ m hm).trans ((Below.heap_setCell _ _ _ m hm).trans ((Below.heap_setCell _ _ _ m hm).trans ((Below.heap_setCell _ _ _ m hm).trans (Below.heap_setCell _ _ _ m hm))))
theorem MapW.base {κ : Type} {w : World} {base base' : Nat} {k : TypeId} {enc : κ → Value} {b : Nat} {H : κ → Option (List Int)} (h : MapW w base k enc b H) (hb : base' ≤ base) : MapW w base' k enc b H := by
  obtain ⟨F, q1, q2, q3⟩ := h
  refine ⟨F, q1, fun x => ?_, q3⟩
  rcases q2 x with e | ⟨v, L, e1, e2, e3⟩
  · exact .inl e
  · exact .inr ⟨v, L, e1, e2, own_base e3 hb⟩

set_option maxHeartbeats 8000000 in
set_option maxRecDepth 100000 in
theorem put_any {b : Nat} {vk vb x3 x4 x5 x6 x7 vn vt : Value} {s base0 : Nat} {H : ByteArray → Option Hp} {N : List Nd} {T : List Te} {w : World}
    (hx : w.heap[b]? = some (.cells #[vk, vb, .map (some s), x3, x4, x5, x6, x7] 104 (0, 0))) (hM : MapHp w base0 s H) (hH : HpOk H) (hN : IsN w vn N) (hT : IsT w vt T) (hnd : ∀ n ∈ N, NdOk n) (hte : ∀ t ∈ T, TeOk t) (h60 : N.length ≤ 60) (h120 : T.length ≤ 120) :
    Calls Tryz.prog 30 #[.pointer (some ⟨b, 0, none⟩), .agg #[vn, vt]] w fun e w' => ∃ m1 m2 m3, e = .returned (.tuple #[]) ∧ IxC w' b vk vb vn vt s m1 m2 m3 ∧ MapW w' w.heap.size 9 encS m1 (tabK H N).1 ∧ MapJ w' m2 (tabK H N).2 ∧ MapW w' w.heap.size 166 encD m3 (tabE T) ∧ w.grownBy w' (some b) := by
  have hb := (Array.getElem?_eq_some_iff.1 hx).1
  obtain ⟨W0, hW0⟩ : ∃ W0, W0 = w.alloc (.cells #[vn, vt] 29) := ⟨_, rfl⟩
  have hB0 : Below w.heap.size w W0 := by rw [hW0]; exact b_alloc (Below.refl _ _) _
  have n0 : W0.heap[w.heap.size]? = some (.cells #[vn, vt] 29 (0, 0)) := by rw [hW0]; exact heap_alloc_new w _
  have hs0 : W0.heap.size = w.heap.size + 1 := by rw [hW0]; simp
  have cT := tablesOf_any (w := W0.drew) (hM.on (b_drew hB0)) hH (hN.on (b_drew hB0)) (hT.on (b_drew hB0)) hnd hte h60 h120
  have hx0 := (hB0.block b hb).trans hx
  obtain ⟨an, cn, rfl, _⟩ := hN
  obtain ⟨at', ct, rfl, _⟩ := hT
  have a0 : W0.cell? ⟨w.heap.size, 0, none⟩ = some (.slice an N.length cn) := cell_at n0 rfl
  have a1 : W0.cell? ⟨w.heap.size, 1, none⟩ = some (.slice at' T.length ct) := cell_at n0 rfl
  have a2 : W0.cell? ⟨b, 2, none⟩ = some (.map (some s)) := cell_at hx0 rfl
  have hne : ¬ b = w.heap.size := by omega
  have hne2 : ¬ w.heap.size = b := by omega
  have HX : Hid (∀ W, Below W0.drew.heap.size W0.drew W → W.heap[b]? = some (.cells #[vk, vb, .map (some s), x3, x4, x5, x6, x7] 104 (0, 0)) ∧ Below w.heap.size w W ∧ W.cell? ⟨w.heap.size, 0, none⟩ = some (.slice an N.length cn) ∧ W.cell? ⟨w.heap.size, 1, none⟩ = some (.slice at' T.length ct) ∧ b < W.heap.size) := fun W hB => by
    have h1 : W.heap[b]? = some (.cells #[vk, vb, .map (some s), x3, x4, x5, x6, x7] 104 (0, 0)) := (hB.block b (by show b < W0.heap.size; omega)).trans hx0
    have h2 : W.heap[w.heap.size]? = some (.cells #[.slice an N.length cn, .slice at' T.length ct] 29 (0, 0)) := (hB.block w.heap.size (by show w.heap.size < W0.heap.size; omega)).trans n0
    exact ⟨h1, on1K (b_drew hB0) hB (Nat.le_refl _), cell_at h2 rfl, cell_at h2 rfl, (Array.getElem?_eq_some_iff.1 h1).1⟩
  have HK : ∀ (W : World) (i : Nat) (u : Value), i ≠ 2 → (W.cell? ⟨w.heap.size, 0, none⟩ = some (.slice an N.length cn) ∧ W.cell? ⟨w.heap.size, 1, none⟩ = some (.slice at' T.length ct) ∧ W.cell? ⟨b, 2, none⟩ = some (.map (some s))) → ((W.setCell ⟨b, i, none⟩ u).cell? ⟨w.heap.size, 0, none⟩ = some (.slice an N.length cn) ∧ (W.setCell ⟨b, i, none⟩ u).cell? ⟨w.heap.size, 1, none⟩ = some (.slice at' T.length ct) ∧ (W.setCell ⟨b, i, none⟩ u).cell? ⟨b, 2, none⟩ = some (.map (some s))) := fun W i u hi h =>
    ⟨(World.cell?_setCell_other _ _ _ _ (by intro e; injection e with e; omega)).trans h.1, (World.cell?_setCell_other _ _ _ _ (by intro e; injection e with e; omega)).trans h.2.1, (World.cell?_setCell_other _ _ _ _ (by intro e; injection e with _ e; omega)).trans h.2.2⟩
  have HKH := Lib.hid HK
  clear hx hM hnd hte hB0 n0 hx0 HK
  go_enter Tryz.func30, Tryz.ntmps30
  go_upto_region 1 with fail
  rw [← hW0]
  clear hW0
  first | (go_region_law (first | (go_simp; go_at_call 47; refine cT.mono ?_; rintro e W1 ⟨m1, m2, m3, rfl, hm, k1, k2, k3, hB1⟩; obtain ⟨g0, g1, g2, g3, g4⟩ := HX.out W1 hB1; have g5 : W1.cell? ⟨b, 2, none⟩ = some (.map (some s)) := cell_at g0 rfl; have g6 : W1.cell? ⟨b, 3, none⟩ = some x3 := cell_at g0 rfl; have g7 : W1.cell? ⟨b, 4, none⟩ = some x4 := cell_at g0 rfl; have g8 : W1.cell? ⟨b, 5, none⟩ = some x5 := cell_at g0 rfl; have g9 : W1.cell? ⟨b, 6, none⟩ = some x6 := cell_at g0 rfl; have g10 : W1.cell? ⟨b, 7, none⟩ = some x7 := cell_at g0 rfl; have f3 : W1.frozen? ⟨b, 3, none⟩ = false := frz_at g0; have f4 : W1.frozen? ⟨b, 4, none⟩ = false := frz_at g0; have f5 : W1.frozen? ⟨b, 5, none⟩ = false := frz_at g0; have f6 : W1.frozen? ⟨b, 6, none⟩ = false := frz_at g0; have f7 : W1.frozen? ⟨b, 7, none⟩ = false := frz_at g0; have HP := Lib.hid (And.intro g0 (And.intro g1 (And.intro hm (And.intro k1 (And.intro k2 k3))))); clear g0 g1 hm k1 k2 k3 hB1))) | fail
  all_goals
    go_wp2
    go_end0
    obtain ⟨g0, g1, hm, k1, k2, k3⟩ := HP.out
    obtain ⟨i1, i2, i3, i4⟩ := ix_set5 (vn := .slice an N.length cn) (vt := .slice at' T.length ct) (m1 := m1) (m2 := m2) (m3 := m3) g0 rfl
    have hs0' : w.heap.size + 1 ≤ m1 ∧ w.heap.size + 1 ≤ m2 ∧ w.heap.size + 1 ≤ m3 := by
      obtain ⟨q1, q2, q3⟩ := hm
      have e : W0.drew.heap.size = w.heap.size + 1 := hs0
      exact ⟨by omega, by omega, by omega⟩
    have hle : w.heap.size ≤ W0.drew.heap.size := by show w.heap.size ≤ W0.heap.size; omega
    exact ⟨m1, m2, m3, rfl, i1, (k1.on (i2 m1 (by omega)) (i3 3 (by decide))).base hle, OwnM.of_block k2 (i2 m2 (by omega)), (k3.on (i2 m3 (by omega)) (i3 3 (by decide))).base hle, grown_trans (grown_of_below g1 _) i4⟩
end Go.Proofs.YtifhigajonafdaaGreat

/-
  What an index is; the walk of index.New.
-/
namespace Go.Proofs.YtifhigajonafdaaGreat
open Go.RowKit
open Go.Maps (Keyed)
set_option linter.unusedVariables false
set_option linter.unusedSimpArgs false

theorem hpO_some (L : List Kd) : ∀ (M : List Kd) (F : ByteArray → Option Hp) (x : ByteArray) (p : Hp), (M.foldl (fun F k => upd F (bs k.nm) (hpP L k.nm)) F) x = some p → F x = some p ∨ ∃ k ∈ M, x = bs k.nm ∧ p = hpP L k.nm
  | [], F, x, p, e => .inl e
  | k :: r, F, x, p, e => by
    simp only [List.foldl_cons] at e
    rcases hpO_some L r _ x p e with h1 | ⟨k', hk', h2⟩
    · unfold upd at h1
      split at h1
      · rename_i hx
        exact .inr ⟨k, by simp, hx, (Option.some.inj h1).symm⟩
      · exact .inl h1
    · exact .inr ⟨k', by simp [hk'], h2⟩
theorem hpO_ok {L : List Kd} (hk0 : (ksErr L).2 = 0) (hz : SzK L) : HpOk (hpO L L) := by
  intro x p hp
  rcases hpO_some L L _ x p hp with h1 | ⟨k, hk, _, rfl⟩
  · cases h1
  · have hl12 := ksErr_len hk0
    have hs := kinOf_sub (L.take (nmAt L k.nm + 1))
    refine ⟨?_, ?_, fun a ha => ?_⟩
    · have : (nms (kin L k.nm)).length = (kinOf (L.take (nmAt L k.nm + 1))).length := by simp [nms, kin]
      show (nms (kin L k.nm)).length ≤ 1000
      rw [this]
      have h1 := hs.2
      simp at h1
      omega
    · show (keysF (fields L k.nm)).length ≤ 1000
      obtain ⟨hG, hn, j, q, hx, hat, hq, hqa⟩ := nmErr_zero (in_nmErr hk0 hk)
      obtain ⟨l, hl1, hl2⟩ := hG.fields hq
      have hkin : kin L k.nm = kinOf (L.take (j + 1)) := by unfold kin; rw [hat]
      have hfl : fields L k.nm = l := by unfold fields; rw [hkin, hl1]; rfl
      have := keysF_len (fields L k.nm)
      rw [hfl] at this ⊢
      omega
    · obtain ⟨q, hq, rfl⟩ := List.mem_map.1 ha
      exact (hz q (List.mem_of_mem_take (hs.1 q hq))).1
theorem tabK_c (H : ByteArray → Option Hp) (N : List Nd) : tabK H (cN N) = tabK H N := by
  unfold tabK cN
  rw [List.foldl_map]
  rfl
def Ix (w : World) (base b : Nat) (L : List Kd) (B : List Bd) (N : List Nd) (T : List Te) : Prop :=
  ∃ vk vb vn vt s m1 m2 m3 K M, IxC w b vk vb vn vt s m1 m2 m3 ∧ base ≤ b ∧ (K.map kq3 = L.map kq3 ∧ OwnKs w base vk K ∧ OwnBs w base vb B) ∧ MapHp w base s (hpO L L) ∧ (cN M = N ∧ OwnNs w base vn M ∧ OwnTs w base vt T) ∧
    MapW w base 9 encS m1 (tabK (hpO L L) N).1 ∧ MapJ w m2 (tabK (hpO L L) N).2 ∧ MapW w base 166 encD m3 (tabE T)
theorem OwnHp.base {w : World} {base base' : Nat} {v : Value} {h : Hp} (hh : OwnHp w base v h) (hb : base' ≤ base) : OwnHp w base' v h := by
  obtain ⟨a, b, rfl, h1, h2⟩ := hh
  exact ⟨a, b, rfl, own_base h1 hb, own_base h2 hb⟩
theorem MapHp.base {w : World} {base base' b : Nat} {H : ByteArray → Option Hp} (h : MapHp w base b H) (hb : base' ≤ base) : MapHp w base' b H := by
  obtain ⟨F, h1, h2⟩ := h
  refine ⟨F, h1, fun x => ?_⟩
  rcases h2 x with e | ⟨v, s, e1, e2, hh⟩
  · exact .inl e
  · exact .inr ⟨v, s, e1, e2, hh.base hb⟩
theorem OwnKs.base {w : World} {base base' : Nat} {v : Value} {L : List Kd} (h : OwnKs w base v L) (hb : base' ≤ base) : OwnKs w base' v L := ⟨own_base h.1 hb, fun k hk => ⟨own_base (h.2 k hk).1 hb, own_base (h.2 k hk).2 hb⟩⟩
theorem OwnNs.base {w : World} {base base' : Nat} {v : Value} {N : List Nd} (h : OwnNs w base v N) (hb : base' ≤ base) : OwnNs w base' v N := ⟨own_base h.1 hb, fun n hn => own_base (h.2 n hn) hb⟩
theorem MapHp.is_map {w : World} {base b : Nat} {H : ByteArray → Option Hp} (h : MapHp w base b H) : ∃ es c, w.heap[b]? = some (.map es c) := by
  obtain ⟨F, h1, _⟩ := h
  exact h1.is_map
theorem map_ne {w : World} {b s : Nat} {cs : Array Value} {t : TypeId} {es : Array MapEntry} {c : Nat} (hb : w.heap[b]? = some (.cells cs t (0, 0))) (hs : w.heap[s]? = some (.map es c)) : s ≠ b := fun e => by
  subst e
  rw [hb] at hs
  cases hs
end Go.Proofs.YtifhigajonafdaaGreat

/-
  The walk of index.New.
-/
namespace Go.Proofs.YtifhigajonafdaaGreat
open Go.RowKit
open Go.Maps (Keyed)
set_option linter.unusedVariables false
set_option linter.unusedSimpArgs false

theorem cfE_zero {L : List Kd} {B : List Bd} {N : List Nd} {T : List Te} (h : cfE L B N T = 0) : (sErr L B).2 = 0 ∧ gErr N T = 0 ∧ confB L B N T = true := by
  unfold cfE at h
  by_cases h1 : inE L B N T = 0
  · rw [if_pos h1] at h
    by_cases h2 : confB L B N T = true
    · unfold inE at h1
      by_cases h3 : (sErr L B).2 = 0
      · rw [if_pos h3] at h1; exact ⟨h3, h1, h2⟩
      · rw [if_neg h3] at h1; exact absurd h1 h3
    · rw [if_neg h2] at h; exact absurd h (by decide)
  · rw [if_neg h1] at h; exact absurd h h1
def NwI (W1 : World) (L : List Kd) (B : List Bd) (s7 : Value) (wx : World) : Prop :=
  ∃ p vk vb s K, s7 = .pointer (some ⟨p, 0, none⟩) ∧ wx.heap[p]? = some (.cells #[vk, vb, .map (some s), .slice none 0 0, .slice none 0 0, .map none, .map none, .map none] 104 (0, 0)) ∧ W1.heap.size ≤ p ∧ (K.map kq3 = L.map kq3 ∧ OwnKs wx W1.heap.size vk K ∧ OwnBs wx W1.heap.size vb B) ∧ MapHp wx W1.heap.size s (hpO L L) ∧ Below W1.heap.size W1 wx
theorem nwI_mk {W1 W3 : World} {L K : List Kd} {B : List Bd} {vk vb : Value} {s : Nat} (h1 : K.map kq3 = L.map kq3 ∧ OwnKs W3 W1.heap.size vk K ∧ OwnBs W3 W1.heap.size vb B) (h2 : MapHp W3 W1.heap.size s (hpO L L)) (h3 : Below W1.heap.size W1 W3) {W4 : World} (hW4 : W4 = W3.alloc (.cells #[vk, vb, .map (some s), .slice none 0 0, .slice none 0 0, .map none, .map none, .map none] 104)) : NwI W1 L B (.pointer (some ⟨W3.heap.size, 0, none⟩)) W4 := by
  subst hW4
  have hB : Below W3.heap.size W3 (W3.alloc (.cells #[vk, vb, .map (some s), .slice none 0 0, .slice none 0 0, .map none, .map none, .map none] 104)) := b_alloc (Below.refl _ _) _
  exact ⟨_, _, _, _, K, rfl, heap_alloc_new W3 _, h3.size, ⟨h1.1, h1.2.1.kt (.of_below hB) (.of_below hB) (.of_below hB), own_kt h1.2.2 (.of_below hB)⟩, h2.on hB, b_alloc h3 _⟩

set_option maxHeartbeats 8000000 in
set_option maxRecDepth 100000 in
theorem new_no {vs vg : Value} {L : List Kd} {B : List Bd} {N : List Nd} {T : List Te} {w : World} (hs : IsSc w vs L B) (hg : IsG w vg N T) (h : cfE L B N T ≠ 0) :
    Calls Tryz.prog 15 #[vs, vg] w fun e w' => e = .returned (.tuple #[.pointer none, .iface 74 (.int .i64 (cfE L B N T))]) ∧ Below w.heap.size w w' := by
  have HP : Hid (IsSc w vs L B ∧ IsG w vg N T) := ⟨hs, hg⟩
  obtain ⟨vk, vb, rfl, hK, hP, hz, hb, hzb⟩ := hs
  obtain ⟨vn, vt, rfl, hN, hT, zN, zT, lN, lT⟩ := hg
  obtain ⟨ak, ck, rfl, hl1⟩ := hK.sln
  obtain ⟨ab, cb, rfl, hl2⟩ := hb.sln
  obtain ⟨an, cn, rfl, _⟩ := hN
  obtain ⟨at', ct, rfl, _⟩ := hT
  have HB0 : Hid (Below w.heap.size w (box2 w #[.slice ak L.length ck, .slice ab B.length cb] 25 #[.slice an N.length cn, .slice at' T.length ct] 29)) := box2_below _ _ _ _ _
  have c := conform_any (HP.out.1.on HB0.out) (HP.out.2.on HB0.out)
  rw [errV_ne h] at c
  generalize cfE L B N T = z at c
  clear hK hP hz hb hzb zN zT lN lT hl1 hl2 h
  go_enter Tryz.func15, Tryz.ntmps15
  go_wp2_with (go_at_call 28; refine c.mono ?_; rintro e W1 ⟨rfl, hB1⟩)
  go_ret2
  exact ⟨rfl, on1K HB0.out hB1 (Nat.le_refl _)⟩

set_option maxHeartbeats 8000000 in
set_option maxRecDepth 100000 in
theorem new_yes {vs vg : Value} {L : List Kd} {B : List Bd} {N : List Nd} {T : List Te} {w : World} (hs : IsSc w vs L B) (hg : IsG w vg N T) (h : cfE L B N T = 0) :
    Calls Tryz.prog 15 #[vs, vg] w fun e w' => ∃ b, e = .returned (.tuple #[.pointer (some ⟨b, 0, none⟩), .nilIface]) ∧ Ix w' w.heap.size b L B (cN N) T ∧ Below w.heap.size w w' := by
  obtain ⟨hs0, hg0, _⟩ := cfE_zero h
  obtain ⟨hk0, hGB, hb12⟩ := sErr_good.1 hs0
  have hl12 := ksErr_len hk0
  obtain ⟨l60, l120, hchk, _⟩ := gErr_lens hg0
  have HP : Hid (IsSc w vs L B ∧ IsG w vg N T) := ⟨hs, hg⟩
  obtain ⟨vk, vb, rfl, hK, hP, hz, hb, hzb⟩ := hs
  obtain ⟨vn, vt, rfl, hN, hT, zN, zT, lN, lT⟩ := hg
  have HS0 : Hid (IsK w vk L ∧ Parts w L ∧ SzK L ∧ IsB w vb B ∧ IsN w vn N ∧ IsT w vt T) := ⟨hK, hP, hz, hb, hN, hT⟩
  obtain ⟨ak, ck, rfl, hl1⟩ := hK.sln
  obtain ⟨ab, cb, rfl, hl2⟩ := hb.sln
  obtain ⟨an, cn, rfl, _⟩ := hN
  obtain ⟨at', ct, rfl, _⟩ := hT
  obtain ⟨W0, hW0⟩ : ∃ W0, W0 = box2 w #[.slice ak L.length ck, .slice ab B.length cb] 25 #[.slice an N.length cn, .slice at' T.length ct] 29 := ⟨_, rfl⟩
  have HB0 : Hid (Below w.heap.size w W0) := by rw [hW0]; exact box2_below _ _ _ _ _
  have x0 : W0.cell? ⟨w.heap.size, 0, none⟩ = some (.slice ak L.length ck) := by rw [hW0]; exact box2_a _ _ _ _ _ rfl
  have x1 : W0.cell? ⟨w.heap.size, 1, none⟩ = some (.slice ab B.length cb) := by rw [hW0]; exact box2_a _ _ _ _ _ rfl
  have x2 : W0.cell? ⟨w.heap.size + 1, 0, none⟩ = some (.slice an N.length cn) := by rw [hW0]; exact box2_b _ _ _ _ _ rfl
  have x3 : W0.cell? ⟨w.heap.size + 1, 1, none⟩ = some (.slice at' T.length ct) := by rw [hW0]; exact box2_b _ _ _ _ _ rfl
  have hs0' : W0.heap.size = w.heap.size + 2 := by rw [hW0]; exact box2_size _ _ _ _ _
  have HC : Hid (∀ W, Below W0.heap.size W0 W → Below w.heap.size w W ∧ W.cell? ⟨w.heap.size, 0, none⟩ = some (.slice ak L.length ck) ∧ W.cell? ⟨w.heap.size, 1, none⟩ = some (.slice ab B.length cb) ∧ W.cell? ⟨w.heap.size + 1, 0, none⟩ = some (.slice an N.length cn) ∧ W.cell? ⟨w.heap.size + 1, 1, none⟩ = some (.slice at' T.length ct)) := fun W hB =>
    ⟨on1K HB0.out hB (Nat.le_refl _), (hB.cell (p := ⟨w.heap.size, 0, none⟩) (by show w.heap.size < _; omega)).trans x0, (hB.cell (p := ⟨w.heap.size, 1, none⟩) (by show w.heap.size < _; omega)).trans x1, (hB.cell (p := ⟨w.heap.size + 1, 0, none⟩) (by show w.heap.size + 1 < _; omega)).trans x2, (hB.cell (p := ⟨w.heap.size + 1, 1, none⟩) (by show w.heap.size + 1 < _; omega)).trans x3⟩
  have c := conform_any (HP.out.1.on HB0.out) (HP.out.2.on HB0.out)
  rw [h, errV_0] at c
  have hsm : ∀ k ∈ L, k.of.length ≤ 1000 ∧ k.fs.length ≤ 1000 := fun k hk => by
    obtain ⟨i, hi⟩ := List.mem_iff_getElem?.1 hk
    have := (kErr_zero ((ksErr_good.1 hk0).1 i k hi)).2.2.1
    omega
  have HS : Hid (∀ W1 W, Below W0.heap.size W0 W1 → Below W1.heap.size W1 W → Calls Tryz.prog 16 #[.agg #[.slice ak L.length ck, .slice ab B.length cb]] W fun e w' => ∃ a n c a' n' c' K, e = .returned (.agg #[.slice a n c, .slice a' n' c']) ∧ (K.map kq3 = L.map kq3 ∧ OwnKs w' W1.heap.size (.slice a n c) K ∧ OwnBs w' W1.heap.size (.slice a' n' c') B) ∧ Below W.heap.size W w' ∧ Below W1.heap.size W1 w' ∧ w'.cell? ⟨w.heap.size, 0, none⟩ = some (.slice ak L.length ck) ∧ w'.cell? ⟨w.heap.size, 1, none⟩ = some (.slice ab B.length cb)) := fun W1 W h1 h2 => by
    have hw := on1K (HC.out W1 h1).1 h2 (Nat.le_refl _)
    refine (scopy_any (HS0.out.1.on hw) (HS0.out.2.1.on hw) (HS0.out.2.2.2.1.on hw) (by omega) (by omega) hsm).mono ?_
    rintro e w' ⟨uk, ub, K, rfl, q1, q2, q3, q4⟩
    obtain ⟨a, c, rfl⟩ := own_slice q2.1
    obtain ⟨a', c', rfl⟩ := own_slice q3
    have h3 := on1K h2 q4 (Nat.le_refl _)
    obtain ⟨_, y0, y1, _, _⟩ := HC.out w' (on1K h1 h3 (Nat.le_refl _))
    exact ⟨_, _, _, _, _, _, K, rfl, ⟨q1, q2.base h2.size, own_base q3 h2.size⟩, q4, h3, y0, y1⟩
  have HT : Hid (∀ W1 W, Below W0.heap.size W0 W1 → Below W1.heap.size W1 W → Calls Tryz.prog 29 #[.agg #[.slice ak L.length ck, .slice ab B.length cb]] W fun e w' => ∃ b, e = .returned (.map (some b)) ∧ MapHp w' W1.heap.size b (hpO L L) ∧ Below W.heap.size W w' ∧ Below W1.heap.size W1 w' ∧ w'.cell? ⟨w.heap.size, 0, none⟩ = some (.slice ak L.length ck) ∧ w'.cell? ⟨w.heap.size, 1, none⟩ = some (.slice ab B.length cb)) := fun W1 W h1 h2 => by
    have hw := on1K (HC.out W1 h1).1 h2 (Nat.le_refl _)
    refine (shapesOf_any (HS0.out.1.on hw) (HS0.out.2.1.on hw) HS0.out.2.2.1 hk0 ⟨_, _, _, rfl⟩).mono ?_
    rintro e w' ⟨b, rfl, _, q2, q4⟩
    have h3 := on1K h2 q4 (Nat.le_refl _)
    obtain ⟨_, y0, y1, _, _⟩ := HC.out w' (on1K h1 h3 (Nat.le_refl _))
    exact ⟨b, rfl, q2.base h2.size, q4, h3, y0, y1⟩
  have HG : Hid (∀ W, Below w.heap.size w W → Calls Tryz.prog 17 #[.agg #[.slice an N.length cn, .slice at' T.length ct]] W fun e w' => ∃ a n c a' n' c' M, e = .returned (.agg #[.slice a n c, .slice a' n' c']) ∧ (cN M = cN N ∧ OwnNs w' W.heap.size (.slice a n c) M ∧ OwnTs w' W.heap.size (.slice a' n' c') T) ∧ Below W.heap.size W w') := fun W hw => by
    refine (copied_any (HS0.out.2.2.2.2.1.on hw) (HS0.out.2.2.2.2.2.on hw) l60 l120 (fun n hn => by have := gErr_rc8 hg0 n hn; omega)).mono ?_
    rintro e w' ⟨un, ut, M, rfl, q1, q2, q3, q4⟩
    obtain ⟨a, c, rfl⟩ := own_slice q2.1
    obtain ⟨a', c', rfl⟩ := own_slice q3
    exact ⟨_, _, _, _, _, _, M, rfl, ⟨q1, q2, q3⟩, q4⟩
  have hH := hpO_ok hk0 hz
  have HZ : Hid (∀ M : List Nd, cN M = cN N → gErr M T = 0 ∧ M.length ≤ 60) := fun M hM => by
    have : gErr M T = 0 := by rw [← gErr_c, hM, gErr_c]; exact hg0
    exact ⟨this, (gErr_lens this).1⟩
  clear hK hP hz hb hzb zN zT lN lT hl1 hl2 hsm hg0 hs0 hk0 hGB hchk h
  go_enter Tryz.func15, Tryz.ntmps15
  go_upto_region 1 with fail
  unfold box2 at hW0
  rw [← hW0]
  clear hW0
  go_wp2_with (first | (go_at_call 28; refine c.mono ?_; rintro e W1 ⟨rfl, hB1⟩; refine Hid.out ?_))
  refine Lib.hid ?_
  obtain ⟨hbw, y0, y1, _, _⟩ := HC.out W1 hB1
  have H1 := Lib.hid (And.intro hbw hB1)
  have hz1 : w.heap.size + 2 ≤ W1.heap.size := by have := hB1.size; omega
  clear hbw hB1 c x0 x1 x2 x3
  go_upto_region 4 with fail
  go_cut [7] (fun s7 wx => NwI W1 L B s7 wx)
  case first =>
    first | (go_region_law (first | (go_simp; go_at_call 16; refine (HS.out W1 _ H1.out.2 (by first | exact b_drew (Below.refl _ _) | exact hbt)).mono ?_; rintro e W2 ⟨a1, n1, c1, a2, n2, c2, K, rfl, hown, hbs', hbs, y2, y3⟩; have HO := Lib.hid (And.intro hown (And.intro hbs' hbs)); clear hown hbs') | (go_simp; go_at_call 29; refine (HT.out W1 _ H1.out.2 (by first | exact b_drew (Below.refl _ _) | exact hbs)).mono ?_; rintro e W3 ⟨sm, rfl, hmap, hbt', hbt, y4, y5⟩; have HM := Lib.hid (And.intro hmap (And.intro hbt' hbt)); clear hmap hbt'))) | fail
    all_goals
      go_wp2
      go_meet
      first
        | exact nwI_mk (K := K) ⟨HO.out.1.1, HO.out.1.2.1.kt (.of_below HM.out.2.1) (.of_below HM.out.2.1) (.of_below HM.out.2.1), own_kt HO.out.1.2.2 (.of_below HM.out.2.1)⟩ HM.out.1 HM.out.2.2 rfl
        | exact nwI_mk (K := K) HO.out.1 (HM.out.1.on HO.out.2.1) HO.out.2.2 rfl
  case rest =>
  obtain ⟨p, vk, vb, s, K, rfl, hp, hpz, hKs, hMp, hBc⟩ := hcut
  obtain ⟨hbwc, _, _, z2, z3⟩ := HC.out wc (on1K H1.out.2 hBc (Nat.le_refl _))
  have cG := HG.out wc hbwc
  have HI := Lib.hid (And.intro hp (And.intro hpz (And.intro hKs (And.intro hMp hbwc))))
  clear hp hpz hKs hMp hBc hbwc y0 y1
  go_wp2_with (first | (go_at_call 17; refine cG.mono ?_; rintro e W5 ⟨a1, n1, c1, a2, n2, c2, M, rfl, hM, hB5⟩; refine Hid.out ?_))
  refine Lib.hid ?_
  obtain ⟨hp, hpz, hKs, hMp, hbwc⟩ := HI.out
  have hp5 := (hB5.block p (Array.getElem?_eq_some_iff.1 hp).1).trans hp
  obtain ⟨g0, g60⟩ := HZ.out M hM.1
  obtain ⟨zM, zT⟩ := gErr_sz g0
  have cP := put_any hp5 (hMp.on hB5) hH hM.2.1.isN hM.2.2.isT (nds_ok g0 zM) (tes_ok g0 zT) g60 l120
  have HF : Hid (∀ W6 m1 m2 m3, IxC W6 p vk vb (.slice a1 n1 c1) (.slice a2 n2 c2) s m1 m2 m3 → MapW W6 W5.heap.size 9 encS m1 (tabK (hpO L L) M).1 → MapJ W6 m2 (tabK (hpO L L) M).2 → MapW W6 W5.heap.size 166 encD m3 (tabE T) → W5.grownBy W6 (some p) → Ix W6 w.heap.size p L B (cN N) T ∧ Below w.heap.size w W6) := fun W6 m1 m2 m3 i1 k1 k2 k3 hg6 => by
    have hk : ∀ t, t ≠ 104 → Kt t W5 W6 := fun t ht => Kt.of_grown hp5 (fun e => ht e.symm) hg6
    have hkc : ∀ t, t ≠ 104 → Kt t wc W6 := fun t ht => (Kt.of_below hB5).trans (hk t ht)
    have hwW : w.heap.size ≤ W1.heap.size := by omega
    have hwc := hbwc.size
    have hw5 : w.heap.size ≤ W5.heap.size := Nat.le_trans hwc hB5.size
    obtain ⟨es, cc, hsm⟩ := hMp.is_map
    have hsp := map_ne hp hsm
    have hslt := (Array.getElem?_eq_some_iff.1 hsm).1
    have hM6 : MapHp W6 W1.heap.size s (hpO L L) := hMp.kt ((hg6.block s (Nat.lt_of_lt_of_le hslt hB5.size) (by simp; exact hsp)).trans (hB5.block s hslt)) (hkc 9 (by decide))
    have htk : tabK (hpO L L) M = tabK (hpO L L) (cN N) := by rw [← tabK_c, hM.1]
    rw [htk] at k1 k2
    refine ⟨⟨_, _, _, _, s, m1, m2, m3, K, M, i1, by omega, ⟨hKs.1, (hKs.2.1.kt (hkc _ (by decide)) (hkc _ (by decide)) (hkc _ (by decide))).base hwW, own_base (own_kt hKs.2.2 (hkc _ (by decide))) hwW⟩, hM6.base hwW, ⟨hM.1, (hM.2.1.kt (hk _ (by decide)) (hk _ (by decide))).base hwc, own_base (hM.2.2.kt (hk _ (by decide))) hwc⟩, k1.base hw5, k2, k3.base hw5⟩, ?_⟩
    exact below_grown (on1K hbwc hB5 (Nat.le_refl _)) hg6 hw5 (fun g hg => by injection hg with hg; omega)
  clear hp hpz hKs hMp hbwc hp5 hM hB5 g0 g60 zM zT cG z2 z3
  go_wp2_with (first | (go_at_call 30; refine cP.mono ?_; rintro e W6 ⟨m1, m2, m3, rfl, i1, k1, k2, k3, hg6⟩))
  go_ret2
  exact ⟨p, rfl, HF.out W6 m1 m2 m3 i1 k1 k2 k3 hg6⟩
end Go.Proofs.YtifhigajonafdaaGreat
