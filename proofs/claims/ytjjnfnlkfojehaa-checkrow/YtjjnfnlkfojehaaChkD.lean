/-
  The walk of plan.ownFaults.
-/
import Derived.Test.YtjjnfnlkfojehaaAppX
import Derived.Test.YtjjnfnlkfojehaaChkC
import Derived.Deep.RegionHeldLaw
namespace Go.Proofs.Ytjjnfnlkfojehaa
open Go.RowKit
set_option linter.unusedVariables false
set_option linter.unusedSimpArgs false

theorem ret_eq {Post : Ending → World → Prop} {x v : Value} {w : World} (h : x = v) (hp : Post (.returned v) w) : Post (.returned x) w := by rw [h]; exact hp
/-- A shape that may be. -/
def ShOk (h : Sh) : Prop := h.kn.length ≤ 1000 ∧ h.fs.length ≤ 8 ∧ (∀ f ∈ h.fs, f.nm.length ≤ maxLen) ∧ h.bn.length ≤ 12 ∧ ∀ x ∈ h.bn, x.nm.length ≤ maxLen
/-- A node that may be. -/
def NdOk (n : Nd) : Prop := Sz n.rc ∧ rErr n.rc = 0 ∧ VOk n.rc ∧ n.kd.size ≤ maxLen ∧ 1 ≤ n.id ∧ n.id ≤ 1000
/-- A box of three cells, and another one. -/
def Box6 (p q : Nat) (x y z a b c : Value) (w : World) : Prop := (p < w.heap.size ∧ q < w.heap.size) ∧ (w.cell? ⟨p, 0, none⟩ = some x ∧ w.cell? ⟨p, 1, none⟩ = some y ∧ w.cell? ⟨p, 2, none⟩ = some z) ∧ (w.cell? ⟨q, 0, none⟩ = some a ∧ w.cell? ⟨q, 1, none⟩ = some b ∧ w.cell? ⟨q, 2, none⟩ = some c)
theorem Box6.kp {p q : Nat} {x y z a b c : Value} {w w' : World} (h : Box6 p q x y z a b c w) (hB : Kp w w') : Box6 p q x y z a b c w' := by
  obtain ⟨⟨h1, h2⟩, ⟨a0, a1, a2⟩, ⟨b0, b1, b2⟩⟩ := h
  exact ⟨⟨Nat.lt_of_lt_of_le h1 hB.1, Nat.lt_of_lt_of_le h2 hB.1⟩, ⟨hB.2 _ _ a0, hB.2 _ _ a1, hB.2 _ _ a2⟩, hB.2 _ _ b0, hB.2 _ _ b1, hB.2 _ _ b2⟩
theorem Box6.app {p q : Nat} {x y z a b c : Value} {w w' : World} {r : Option Nat} (h : Box6 p q x y z a b c w) (hg : w.grownBy w' r) (hr : ∀ g, r = some g → p < g ∧ q < g) : Box6 p q x y z a b c w' := by
  obtain ⟨⟨h1, h2⟩, ⟨a0, a1, a2⟩, ⟨b0, b1, b2⟩⟩ := h
  have hp : some p ≠ r := fun e => by have := hr p e.symm; omega
  have hq : some q ≠ r := fun e => by have := hr q e.symm; omega
  exact ⟨⟨Nat.lt_of_lt_of_le h1 hg.size, Nat.lt_of_lt_of_le h2 hg.size⟩, ⟨hg.cell a0 hp, hg.cell a1 hp, hg.cell a2 hp⟩, hg.cell b0 hq, hg.cell b1 hq, hg.cell b2 hq⟩
theorem own_mono {w : World} {base base' : Nat} {u : Value} {l : List Ft} (h : OwnX w base u l) (hb : base' ≤ base) : OwnX w base' u l := own_base h hb
/-- The look-up of a shape. -/
theorem look_sh {κ : Type} {w : World} {k : TypeId} {enc : κ → Value} {b : Nat} {H : κ → Option Sh} (h : MapSh w k enc b H) (K : Go.Maps.Keyed Try.prog k) (hinj : ∀ x y, enc x = enc y → x = y) {t : TypeId} (ht : Try.prog.underlying t = some (.map k 76)) {x : κ} {l : Lit} (hk : keyOf Try.prog k (enc x) = some l) :
    ∃ v, IsSh w v ((H x).getD sh0) ∧ (Instr.lookup t (.map (some b)) (enc x) true).run Try.prog w = .ok (.tuple #[v, .bool (H x).isSome]) w ∧ (Instr.lookup t (.map (some b)) (enc x) false).run Try.prog w = .ok v w := by
  obtain ⟨F, h1, h2⟩ := h
  have r1 := h1.look K hinj ht (zero76 w) hk true
  have r2 := h1.look K hinj ht (zero76 w) hk false
  simp only [if_true, Bool.false_eq_true, if_false] at r1 r2
  rw [(h2 x).some] at r1
  exact ⟨_, (h2 x).getD, r1, r2⟩
theorem but_map {w w' : World} {κ : Type} {k : TypeId} {enc : κ → Value} {b : Nat} {F : κ → Option Value} (h : OwnM w Try.prog k enc b F) (hg : w.grownBy w' (some b)) : Kp w w' := by
  obtain ⟨es, c, hm, _⟩ := h
  exact Kp.of_but hm hg

set_option maxHeartbeats 8000000 in
set_option maxRecDepth 100000 in
theorem ownFaults_any {v : Value} {H : ByteArray → Option Sh} {X : ByteArray → Option Bd} {n : Nd} {w : World} {bt : Nat} {T : Tk} (hp : IsPl w v H X) (hH : ∀ s h, H s = some h → ShOk h) (hr : IsR w n.rv n.rc) (hn : NdOk n) (hm : MapIn w 106 encQ bt T) :
    Calls Try.prog 15 #[v, n.one, .map (some bt)] w (FfPost w bt (ownF (H n.kd) n T).1 (ownF (H n.kd) n T).2) := by
  obtain ⟨b1, b2, rfl, hs, hb⟩ := hp
  have hbt0 : bt < w.heap.size := OwnM.lt hm
  obtain ⟨id, kd, rv, rc⟩ := n
  obtain ⟨n1, n2, n3, n4, n5, n6⟩ := hn
  simp only at hr n1 n2 n3 n4 n5 n6 ⊢
  have HR : Hid (IsR w rv rc ∧ NdOk ⟨id, kd, rv, rc⟩ ∧ MapIn w 106 encQ bt T) := ⟨hr, ⟨n1, n2, n3, n4, n5, n6⟩, hm⟩
  obtain ⟨av, cv, rfl, _⟩ := hr
  have HB0 : Hid (Below w.heap.size w (box2 w #[.map (some b1), .map (some b2)] 56 #[.int .i64 id, .string kd, .slice av rc.length cv] 33)) := box2_below _ _ _ _ _
  obtain ⟨kl, hkl⟩ := keyS n4
  obtain ⟨vs, hvs, hl, _⟩ := look_sh (hs.on HB0.out) keyedS encS_inj Try.underlying53 hkl
  obtain ⟨vk, vf, vb, rfl, h1, h2, h3⟩ := hvs
  have HSh : Hid (IsSh (box2 w #[.map (some b1), .map (some b2)] 56 #[.int .i64 id, .string kd, .slice av rc.length cv] 33) (.agg #[vk, vf, vb]) ((H kd).getD sh0)) := ⟨_, _, _, rfl, h1, h2, h3⟩
  obtain ⟨a1, c1, rfl, _⟩ := h1.sln
  obtain ⟨a2, c2, rfl, _⟩ := h2.sln
  obtain ⟨a3, c3, rfl, _⟩ := h3.sln
  have HOk : Hid (∀ s h, H s = some h → ShOk h) := hH
  simp only [encS] at hl
  clear hs hb hm h1 h2 h3 hkl hH n1 n2 n3 n4 n5 n6
  cases hk : H kd with
  | none =>
    rw [hk] at hl HSh
    simp only [Option.isSome_none, Option.getD_none] at hl HSh
    generalize sh0.kn.length = l1 at hl HSh
    generalize sh0.fs.length = l2 at hl HSh
    generalize sh0.bn.length = l3 at hl HSh
    clear HSh
    have g0 : ((box2 w #[.map (some b1), .map (some b2)] 56 #[.int .i64 id, .string kd, .slice av rc.length cv] 33).alloc (.cells #[.slice a1 l1 c1, .slice a2 l2 c2, .slice a3 l3 c3] 76)).cell? ⟨w.heap.size + 1, 0, none⟩ = some (.int .i64 id) := ((b_allocK (Below.refl _ _) (Nat.le_refl _) _).cell (by simp)).trans (box2_b _ _ _ _ _ rfl)
    have g1 : ((box2 w #[.map (some b1), .map (some b2)] 56 #[.int .i64 id, .string kd, .slice av rc.length cv] 33).alloc (.cells #[.slice a1 l1 c1, .slice a2 l2 c2, .slice a3 l3 c3] 76)).cell? ⟨w.heap.size + 1, 1, none⟩ = some (.string kd) := ((b_allocK (Below.refl _ _) (Nat.le_refl _) _).cell (by simp)).trans (box2_b _ _ _ _ _ rfl)
    have HE : Hid (FfPost w bt (ownF none ⟨id, kd, .slice av rc.length cv, rc⟩ T).1 (ownF none ⟨id, kd, .slice av rc.length cv, rc⟩ T).2 (.returned (.slice (some ⟨w.heap.size + 1 + 1 + 1, 0, none⟩) 1 1)) ((((w.alloc (.cells #[.map (some b1), .map (some b2)] 56)).alloc (.cells #[.int .i64 id, .string kd, .slice av rc.length cv] 33)).alloc (.cells #[.slice a1 l1 c1, .slice a2 l2 c2, .slice a3 l3 c3] 76)).alloc (.cells #[.int .i64 1, .int .i64 id, .string kd] 40))) := by
      have hB : Below w.heap.size w ((((w.alloc (.cells #[.map (some b1), .map (some b2)] 56)).alloc (.cells #[.int .i64 id, .string kd, .slice av rc.length cv] 33)).alloc (.cells #[.slice a1 l1 c1, .slice a2 l2 c2, .slice a3 l3 c3] 76)).alloc (.cells #[.int .i64 1, .int .i64 id, .string kd] 40)) := b_allocK (b_allocK HB0.out (Nat.le_refl _) _) (Nat.le_refl _) _
      refine ⟨_, rfl, ?_, MapIn.on HR.out.2.2 hB, but_of_below hB _⟩
      have := own_one ((((w.alloc (.cells #[.map (some b1), .map (some b2)] 56)).alloc (.cells #[.int .i64 id, .string kd, .slice av rc.length cv] 33)).alloc (.cells #[.slice a1 l1 c1, .slice a2 l2 c2, .slice a3 l3 c3] 76))) (base := w.heap.size) (by simp; omega) ⟨1, id, kd⟩
      simp only [World.size_alloc] at this
      exact this
    unfold box2 at hl g0 g1
    clear HOk hk HR HB0
    go_enter Try.func15, Try.ntmps15
    go_wp2
    go_ret
    exact HE.out
  | some h =>
    rw [hk] at hl HSh
    simp only [Option.isSome_some, Option.getD_some] at hl HSh
    have HO : Hid (ShOk h) := HOk.out kd h hk
    have HS1 : Hid (Below w.heap.size w ((box2 w #[.map (some b1), .map (some b2)] 56 #[.int .i64 id, .string kd, .slice av rc.length cv] 33).alloc (.cells #[.slice a1 h.kn.length c1, .slice a2 h.fs.length c2, .slice a3 h.bn.length c3] 76)).drew ∧ Below (box2 w #[.map (some b1), .map (some b2)] 56 #[.int .i64 id, .string kd, .slice av rc.length cv] 33).heap.size (box2 w #[.map (some b1), .map (some b2)] 56 #[.int .i64 id, .string kd, .slice av rc.length cv] 33) ((box2 w #[.map (some b1), .map (some b2)] 56 #[.int .i64 id, .string kd, .slice av rc.length cv] 33).alloc (.cells #[.slice a1 h.kn.length c1, .slice a2 h.fs.length c2, .slice a3 h.bn.length c3] 76)).drew) := ⟨b_drew (b_allocK HB0.out (Nat.le_refl _) _), b_drew (b_allocK (Below.refl _ _) (Nat.le_refl _) _)⟩
    have HX6 : Hid (Box6 (w.heap.size + 1 + 1) (w.heap.size + 1) (.slice a1 h.kn.length c1) (.slice a2 h.fs.length c2) (.slice a3 h.bn.length c3) (.int .i64 id) (.string kd) (.slice av rc.length cv) ((box2 w #[.map (some b1), .map (some b2)] 56 #[.int .i64 id, .string kd, .slice av rc.length cv] 33).alloc (.cells #[.slice a1 h.kn.length c1, .slice a2 h.fs.length c2, .slice a3 h.bn.length c3] 76)).drew) := by
      have hz : (box2 w #[.map (some b1), .map (some b2)] 56 #[.int .i64 id, .string kd, .slice av rc.length cv] 33).heap.size = w.heap.size + 1 + 1 := box2_size _ _ _ _ _
      have hn : ∀ i u, (#[.slice a1 h.kn.length c1, .slice a2 h.fs.length c2, .slice a3 h.bn.length c3] : Array Value)[i]? = some u → ((box2 w #[.map (some b1), .map (some b2)] 56 #[.int .i64 id, .string kd, .slice av rc.length cv] 33).alloc (.cells #[.slice a1 h.kn.length c1, .slice a2 h.fs.length c2, .slice a3 h.bn.length c3] 76)).drew.cell? ⟨w.heap.size + 1 + 1, i, none⟩ = some u := fun i u hu => by
        have := two_new (box2 w #[.map (some b1), .map (some b2)] 56 #[.int .i64 id, .string kd, .slice av rc.length cv] 33) #[.slice a1 h.kn.length c1, .slice a2 h.fs.length c2, .slice a3 h.bn.length c3] 76 hu
        rw [hz] at this
        exact this
      have ho : ∀ i u, (#[.int .i64 id, .string kd, .slice av rc.length cv] : Array Value)[i]? = some u → ((box2 w #[.map (some b1), .map (some b2)] 56 #[.int .i64 id, .string kd, .slice av rc.length cv] 33).alloc (.cells #[.slice a1 h.kn.length c1, .slice a2 h.fs.length c2, .slice a3 h.bn.length c3] 76)).drew.cell? ⟨w.heap.size + 1, i, none⟩ = some u := fun i u hu => (HS1.out.2.cell (by rw [hz]; simp)).trans (box2_b _ _ _ _ _ hu)
      exact ⟨⟨by simp, by simp⟩, ⟨hn 0 _ rfl, hn 1 _ rfl, hn 2 _ rfl⟩, ho 0 _ rfl, ho 1 _ rfl, ho 2 _ rfl⟩
    have c22 := propFaults_any (n := ⟨id, kd, .slice av rc.length cv, rc⟩) (HSh.out.on HS1.out.2) HO.out.2.1 (HR.out.1.on HS1.out.1) (rErr_len HR.out.2.1.2.1)
    have c23 := fun W2 (hB : Below ((box2 w #[.map (some b1), .map (some b2)] 56 #[.int .i64 id, .string kd, .slice av rc.length cv] 33).alloc (.cells #[.slice a1 h.kn.length c1, .slice a2 h.fs.length c2, .slice a3 h.bn.length c3] 76)).drew.heap.size ((box2 w #[.map (some b1), .map (some b2)] 56 #[.int .i64 id, .string kd, .slice av rc.length cv] 33).alloc (.cells #[.slice a1 h.kn.length c1, .slice a2 h.fs.length c2, .slice a3 h.bn.length c3] 76)).drew W2) => fieldFaults_any (n := ⟨id, kd, .slice av rc.length cv, rc⟩) ((HSh.out.on HS1.out.2).on hB) HO.out.2.1 HO.out.2.2.1 ((HR.out.1.on HS1.out.1).on hB) HR.out.2.1.1 HR.out.2.1.2.1 HR.out.2.1.2.2.1 ((MapIn.on HR.out.2.2 HS1.out.1).on hB)
    have HC22 : Hid (Calls Try.prog 22 #[.agg #[.slice a1 h.kn.length c1, .slice a2 h.fs.length c2, .slice a3 h.bn.length c3], .agg #[.int .i64 id, .string kd, .slice av rc.length cv]] ((box2 w #[.map (some b1), .map (some b2)] 56 #[.int .i64 id, .string kd, .slice av rc.length cv] 33).alloc (.cells #[.slice a1 h.kn.length c1, .slice a2 h.fs.length c2, .slice a3 h.bn.length c3] 76)).drew (XPost ((box2 w #[.map (some b1), .map (some b2)] 56 #[.int .i64 id, .string kd, .slice av rc.length cv] 33).alloc (.cells #[.slice a1 h.kn.length c1, .slice a2 h.fs.length c2, .slice a3 h.bn.length c3] 76)).drew (propF h.fs id rc))) := c22
    have HC23 : Hid (∀ W2, Below ((box2 w #[.map (some b1), .map (some b2)] 56 #[.int .i64 id, .string kd, .slice av rc.length cv] 33).alloc (.cells #[.slice a1 h.kn.length c1, .slice a2 h.fs.length c2, .slice a3 h.bn.length c3] 76)).drew.heap.size ((box2 w #[.map (some b1), .map (some b2)] 56 #[.int .i64 id, .string kd, .slice av rc.length cv] 33).alloc (.cells #[.slice a1 h.kn.length c1, .slice a2 h.fs.length c2, .slice a3 h.bn.length c3] 76)).drew W2 → Calls Try.prog 23 #[.agg #[.slice a1 h.kn.length c1, .slice a2 h.fs.length c2, .slice a3 h.bn.length c3], .agg #[.int .i64 id, .string kd, .slice av rc.length cv], .map (some bt)] W2 (FfPost W2 bt (fieldF h.fs id rc T).1 (fieldF h.fs id rc T).2)) := c23
    have HF : Hid (∀ W2 W3 u1 v1 w1, Below ((box2 w #[.map (some b1), .map (some b2)] 56 #[.int .i64 id, .string kd, .slice av rc.length cv] 33).alloc (.cells #[.slice a1 h.kn.length c1, .slice a2 h.fs.length c2, .slice a3 h.bn.length c3] 76)).drew.heap.size ((box2 w #[.map (some b1), .map (some b2)] 56 #[.int .i64 id, .string kd, .slice av rc.length cv] 33).alloc (.cells #[.slice a1 h.kn.length c1, .slice a2 h.fs.length c2, .slice a3 h.bn.length c3] 76)).drew W2 → World.grownBy W2 W3 (some bt) → OwnX W2 ((box2 w #[.map (some b1), .map (some b2)] 56 #[.int .i64 id, .string kd, .slice av rc.length cv] 33).alloc (.cells #[.slice a1 h.kn.length c1, .slice a2 h.fs.length c2, .slice a3 h.bn.length c3] 76)).drew.heap.size u1 (propF h.fs id rc) → MapIn W3 106 encQ bt (fieldF h.fs id rc T).2 → OwnX w1 ((box2 w #[.map (some b1), .map (some b2)] 56 #[.int .i64 id, .string kd, .slice av rc.length cv] 33).alloc (.cells #[.slice a1 h.kn.length c1, .slice a2 h.fs.length c2, .slice a3 h.bn.length c3] 76)).drew.heap.size v1 (propF h.fs id rc ++ (fieldF h.fs id rc T).1) → World.grownBy W3 w1 u1.ownBlock → FfPost w bt (ownF (some h) ⟨id, kd, .slice av rc.length cv, rc⟩ T).1 (ownF (some h) ⟨id, kd, .slice av rc.length cv, rc⟩ T).2 (.returned v1) w1) := by
      intro W2 W3 u1 v1 w1 hB2 hG3 hX1 hM3 hX hgr
      have hrow : ∀ g, u1.ownBlock = some g → w.heap.size < g := fun g hg => by
        have := (World.ownsRow.lt hX1 g hg).1
        simp at this
        omega
      refine ⟨v1, rfl, own_mono hX (by simp; omega), ?_, but_app (but_trans (but_of_below (HS1.out.1.trans (hB2.mono HS1.out.1.size)) _) hG3) hgr (fun g hg => by have := hrow g hg; omega)⟩
      exact OwnM.of_block hM3 (hgr.block _ (OwnM.lt hM3) (fun e => by have := hrow bt e.symm; omega))
    have HLn : Hid ((propF h.fs id rc).length + (fieldF h.fs id rc T).1.length ≤ 100000) := by
      have h1 := propF_len h.fs id rc
      have h2 := fieldF_len h.fs id rc T
      have h3 := rErr_len HR.out.2.1.2.1
      have h4 := HO.out.2.1
      show _ ≤ _
      simp only at h3
      omega
    have HK2 : Hid (∀ W2, Below ((box2 w #[.map (some b1), .map (some b2)] 56 #[.int .i64 id, .string kd, .slice av rc.length cv] 33).alloc (.cells #[.slice a1 h.kn.length c1, .slice a2 h.fs.length c2, .slice a3 h.bn.length c3] 76)).drew.heap.size ((box2 w #[.map (some b1), .map (some b2)] 56 #[.int .i64 id, .string kd, .slice av rc.length cv] 33).alloc (.cells #[.slice a1 h.kn.length c1, .slice a2 h.fs.length c2, .slice a3 h.bn.length c3] 76)).drew W2 → ∀ W3, World.grownBy W2 W3 (some bt) → Kp W2 W3) := fun W2 hB2 W3 hG => but_map ((MapIn.on HR.out.2.2 HS1.out.1).on hB2) hG
    have HBs : Hid (∀ W2 W3 u1, Below ((box2 w #[.map (some b1), .map (some b2)] 56 #[.int .i64 id, .string kd, .slice av rc.length cv] 33).alloc (.cells #[.slice a1 h.kn.length c1, .slice a2 h.fs.length c2, .slice a3 h.bn.length c3] 76)).drew.heap.size ((box2 w #[.map (some b1), .map (some b2)] 56 #[.int .i64 id, .string kd, .slice av rc.length cv] 33).alloc (.cells #[.slice a1 h.kn.length c1, .slice a2 h.fs.length c2, .slice a3 h.bn.length c3] 76)).drew W2 → World.grownBy W2 W3 (some bt) → OwnX W2 ((box2 w #[.map (some b1), .map (some b2)] 56 #[.int .i64 id, .string kd, .slice av rc.length cv] 33).alloc (.cells #[.slice a1 h.kn.length c1, .slice a2 h.fs.length c2, .slice a3 h.bn.length c3] 76)).drew.heap.size u1 (propF h.fs id rc) → OwnX W3 ((box2 w #[.map (some b1), .map (some b2)] 56 #[.int .i64 id, .string kd, .slice av rc.length cv] 33).alloc (.cells #[.slice a1 h.kn.length c1, .slice a2 h.fs.length c2, .slice a3 h.bn.length c3] 76)).drew.heap.size u1 (propF h.fs id rc) ∧ ((box2 w #[.map (some b1), .map (some b2)] 56 #[.int .i64 id, .string kd, .slice av rc.length cv] 33).alloc (.cells #[.slice a1 h.kn.length c1, .slice a2 h.fs.length c2, .slice a3 h.bn.length c3] 76)).drew.heap.size ≤ W3.heap.size ∧ ∀ g, u1.ownBlock = some g → w.heap.size + 1 + 1 < g ∧ w.heap.size + 1 < g) := fun W2 W3 u1 hB2 hG hX => ⟨own_but hX hG (by simp; omega), Nat.le_trans hB2.size hG.size, fun g hg => by
      have := (World.ownsRow.lt hX g hg).1
      simp at this
      omega⟩
    unfold box2 at hl HX6 HC22 HC23 HF HK2 HBs
    have HX7 : Hid (Box6 (w.heap.size + 1 + 1) (w.heap.size + 1) (.slice a1 h.kn.length c1) (.slice a2 h.fs.length c2) (.slice a3 h.bn.length c3) (.int .i64 id) (.string kd) (.slice av rc.length cv) (((w.alloc (.cells #[.map (some b1), .map (some b2)] 56)).alloc (.cells #[.int .i64 id, .string kd, .slice av rc.length cv] 33)).alloc (.cells #[.slice a1 h.kn.length c1, .slice a2 h.fs.length c2, .slice a3 h.bn.length c3] 76))) := HX6.out
    clear HOk hk HR HB0 c22 c23 HSh HS1 HO
    go_enter Try.func15, Try.ntmps15
    go_wp2
    obtain ⟨_, ⟨o0, o1, o2⟩, ⟨o3, o4, o5⟩⟩ := HX7.out
    first | (go_region_held_law (fun w' => w'.cell? ⟨w.heap.size + 1 + 1, 0, none⟩ = some (.slice a1 h.kn.length c1) ∧ w'.cell? ⟨w.heap.size + 1 + 1, 1, none⟩ = some (.slice a2 h.fs.length c2) ∧ w'.cell? ⟨w.heap.size + 1 + 1, 2, none⟩ = some (.slice a3 h.bn.length c3) ∧ w'.cell? ⟨w.heap.size + 1, 0, none⟩ = some (.int .i64 id) ∧ w'.cell? ⟨w.heap.size + 1, 1, none⟩ = some (.string kd) ∧ w'.cell? ⟨w.heap.size + 1, 2, none⟩ = some (.slice av rc.length cv)) (go_keep) (first | (refine step_appX rfl (.tmp 27) (.tmp 31) rfl (by simp [Act.eval, Act.put]) (by simp [Act.eval, Act.put]) (HBs.out W2 W3 u1 hB2 hG3 hX1).1 hX2 HLn.out (HBs.out W2 W3 u1 hB2 hG3 hX1).2.1 ?_; intro v1 w1 hX hgr; have HEnd := Lib.hid (HF.out W2 W3 u1 v1 w1 hB2 hG3 hX1 hM3 hX hgr); obtain ⟨_, ⟨s0, s1, s2⟩, ⟨s3, s4, s5⟩⟩ := (h63.app hgr (HBs.out W2 W3 u1 hB2 hG3 hX1).2.2)) | (go_simp; go_at_call 22; refine HC22.out.mono ?_; rintro e W2 ⟨u1, rfl, hX1, hB2⟩; obtain ⟨_, ⟨p0, p1, p2⟩, ⟨p3, p4, p5⟩⟩ := HX6.out.kp (Kp.of_below hB2)) | (go_simp; go_at_call 23; refine (HC23.out W2 hB2).mono ?_; rintro e W3 ⟨u2, rfl, hX2, hM3, hG3⟩; have h63 := (HX6.out.kp (Kp.of_below hB2)).kp (HK2.out W2 hB2 W3 hG3); obtain ⟨_, ⟨q0, q1, q2⟩, ⟨q3, q4, q5⟩⟩ := h63.kp (Kp.refl _)))) | fail
    all_goals
      go_wp2
      go_ret
      exact ret_eq (Post := FfPost w bt _ _) (by simp) HEnd.out
end Go.Proofs.Ytjjnfnlkfojehaa
