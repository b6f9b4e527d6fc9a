import Derived.Test.YtahamkajkkkjdaaGreatDoorM15
import Derived.Test.YtahamkajkkkjdaaGreatDoorM16
import Derived.Deep.RegionHeldLaw
namespace Go.Proofs.YtahamkajkkkjdaaGreatDoor
open Go.RowKit
set_option linter.unusedVariables false
set_option linter.unusedSimpArgs false
theorem ret_eq {Post : Ending → World → Prop} {x v : Value} {w : World} (h : x = v) (hp : Post (.returned v) w) : Post (.returned x) w := by rw [h]; exact hp
def ShOk (h : Sh) : Prop := h.kn.length ≤ 1000 ∧ h.fs.length ≤ 8 ∧ (∀ f ∈ h.fs, f.nm.length ≤ maxLen) ∧ h.bn.length ≤ 12 ∧ ∀ x ∈ h.bn, x.nm.length ≤ maxLen
def NdOk (n : Nd) : Prop := Sz n.rc ∧ rErr n.rc = 0 ∧ VOk n.rc ∧ n.kd.size ≤ maxLen ∧ 1 ≤ n.id ∧ n.id ≤ 1000
def Box6 (p q : Nat) (x y z a b c : Value) (w : World) : Prop := (p < w.heap.size ∧ q < w.heap.size) ∧ (w.cell? ⟨p, 0, none⟩ = some x ∧ w.cell? ⟨p, 1, none⟩ = some y ∧ w.cell? ⟨p, 2, none⟩ = some z) ∧ (w.cell? ⟨q, 0, none⟩ = some a ∧ w.cell? ⟨q, 1, none⟩ = some b ∧ w.cell? ⟨q, 2, none⟩ = some c)
theorem Box6.kp {p q : Nat} {x y z a b c : Value} {w w' : World} (h : Box6 p q x y z a b c w) (hB : Kp w w') : Box6 p q x y z a b c w' := by
  obtain ⟨⟨h1, h2⟩, ⟨a0, a1, a2⟩, ⟨b0, b1, b2⟩⟩ := h
  exact ⟨⟨Nat.lt_of_lt_of_le h1 hB.1, Nat.lt_of_lt_of_le h2 hB.1⟩, ⟨hB.2 _ _ a0, hB.2 _ _ a1, hB.2 _ _ a2⟩, hB.2 _ _ b0, hB.2 _ _ b1, hB.2 _ _ b2⟩
theorem Box6.app {p q : Nat} {x y z a b c : Value} {w w' : World} {r : Option Nat} (h : Box6 p q x y z a b c w) (hg : w.grownBy w' r) (hr : ∀ g, r = some g → p < g ∧ q < g) : Box6 p q x y z a b c w' := by
  obtain ⟨⟨h1, h2⟩, ⟨a0, a1, a2⟩, ⟨b0, b1, b2⟩⟩ := h
  have hp : some p ≠ r := fun e => by have := hr p e.symm; omega
  have hq : some q ≠ r := fun e => by have := hr q e.symm; omega
  exact ⟨⟨Nat.lt_of_lt_of_le h1 hg.size, Nat.lt_of_lt_of_le h2 hg.size⟩, ⟨hg.cell a0 hp, hg.cell a1 hp, hg.cell a2 hp⟩, hg.cell b0 hq, hg.cell b1 hq, hg.cell b2 hq⟩
theorem own_mono {w : World} {base base' : Nat} {u : Value} {l : List Ft} (h : OwnX w base u l) (hb : base' ≤ base) : OwnX w base' u l := own_baseC h hb
theorem look_sh {κ : Type} {w : World} {k : TypeId} {enc : κ → Value} {b : Nat} {H : κ → Option Sh} (h : MapSh w k enc b H) (K : Go.Maps.Keyed Tryz.prog k) (hinj : ∀ x y, enc x = enc y → x = y) {t : TypeId} (ht : Tryz.prog.underlying t = some (.map k 289)) {x : κ} {l : Lit} (hk : keyOf Tryz.prog k (enc x) = some l) :
    ∃ v, IsSh w v ((H x).getD sh0) ∧ (Instr.lookup t (.map (some b)) (enc x) true).run Tryz.prog w = .ok (.tuple #[v, .bool (H x).isSome]) w ∧ (Instr.lookup t (.map (some b)) (enc x) false).run Tryz.prog w = .ok v w := by
  obtain ⟨F, h1, h2⟩ := h
  have r1 := h1.look K hinj ht (zero76 w) hk true
  have r2 := h1.look K hinj ht (zero76 w) hk false
  simp only [if_true, Bool.false_eq_true, if_false] at r1 r2
  rw [(h2 x).some] at r1
  exact ⟨_, (h2 x).getD, r1, r2⟩
theorem but_map {w w' : World} {κ : Type} {k : TypeId} {enc : κ → Value} {b : Nat} {F : κ → Option Value} (h : OwnM w Tryz.prog k enc b F) (hg : w.grownBy w' (some b)) : Kp w w' := by
  obtain ⟨es, c, hm, _⟩ := h
  exact Kp.of_but hm hg
set_option maxHeartbeats 8000000 in
set_option maxRecDepth 100000 in
theorem ownFaults_any {v : Value} {H : ByteArray → Option Sh} {X : ByteArray → Option Bd} {n : Nd} {w : World} {bt : Nat} {T : Tk} (hp : IsPl w v H X) (hH : ∀ s h, H s = some h → ShOk h) (hr : IsR w n.rv n.rc) (hn : NdOk n) (hm : MapIn w 359 encQ bt T) :
    Calls Tryz.prog 155 #[v, n.one, .map (some bt)] w (FfPost w bt (ownF (H n.kd) n T).1 (ownF (H n.kd) n T).2) := by
  obtain ⟨b1, b2, rfl, hs, hb⟩ := hp
  have hbt0 : bt < w.heap.size := OwnM.lt hm
  obtain ⟨id, kd, rv, rc⟩ := n
  obtain ⟨n1, n2, n3, n4, n5, n6⟩ := hn
  simp only at hr n1 n2 n3 n4 n5 n6 ⊢
  have HR : Hid (IsR w rv rc ∧ NdOk ⟨id, kd, rv, rc⟩ ∧ MapIn w 359 encQ bt T) := ⟨hr, ⟨n1, n2, n3, n4, n5, n6⟩, hm⟩
  obtain ⟨av, cv, rfl, _⟩ := hr
  have HB0 : Hid (Below w.heap.size w (box2 w #[.map (some b1), .map (some b2)] 246 #[.int .i64 id, .string kd, .slice av rc.length cv] 40)) := box2_below _ _ _ _ _
  obtain ⟨kl, hkl⟩ := keyS n4
  obtain ⟨vs, hvs, hl, _⟩ := look_sh (hs.on HB0.out) keyedS encS_inj Tryz.underlying243 hkl
  obtain ⟨vk, vf, vb, rfl, h1, h2, h3⟩ := hvs
  have HSh : Hid (IsSh (box2 w #[.map (some b1), .map (some b2)] 246 #[.int .i64 id, .string kd, .slice av rc.length cv] 40) (.agg #[vk, vf, vb]) ((H kd).getD sh0)) := ⟨_, _, _, rfl, h1, h2, h3⟩
  obtain ⟨a1, c1, rfl, _⟩ := h1.sln
  obtain ⟨a2, c2, rfl, _⟩ := h2.sln
  obtain ⟨a3, c3, rfl, _⟩ := h3.sln
  have HOk : Hid (∀ s h, H s = some h → ShOk h) := hH
  simp only [encS] at hl
  clear hs hb hm h1 h2 h3 hkl hH n1 n2 n3 n4 n5 n6
  cases hk : H kd with
  | none =>
    rw [hk] at hl HSh
    simp only [Option.isSome_none, Option.getD_none] at hl HSh
    generalize sh0.kn.length = l1 at hl HSh
    generalize sh0.fs.length = l2 at hl HSh
    generalize sh0.bn.length = l3 at hl HSh
    clear HSh
    have g0 : ((box2 w #[.map (some b1), .map (some b2)] 246 #[.int .i64 id, .string kd, .slice av rc.length cv] 40).alloc (.cells #[.slice a1 l1 c1, .slice a2 l2 c2, .slice a3 l3 c3] 289)).cell? ⟨w.heap.size + 1, 0, none⟩ = some (.int .i64 id) := ((b_allocKC (Below.refl _ _) (Nat.le_refl _) _).cell (by simp)).trans (box2_b _ _ _ _ _ rfl)
    have g1 : ((box2 w #[.map (some b1), .map (some b2)] 246 #[.int .i64 id, .string kd, .slice av rc.length cv] 40).alloc (.cells #[.slice a1 l1 c1, .slice a2 l2 c2, .slice a3 l3 c3] 289)).cell? ⟨w.heap.size + 1, 1, none⟩ = some (.string kd) := ((b_allocKC (Below.refl _ _) (Nat.le_refl _) _).cell (by simp)).trans (box2_b _ _ _ _ _ rfl)
    have HE : Hid (FfPost w bt (ownF none ⟨id, kd, .slice av rc.length cv, rc⟩ T).1 (ownF none ⟨id, kd, .slice av rc.length cv, rc⟩ T).2 (.returned (.slice (some ⟨w.heap.size + 1 + 1 + 1, 0, none⟩) 1 1)) ((((w.alloc (.cells #[.map (some b1), .map (some b2)] 246)).alloc (.cells #[.int .i64 id, .string kd, .slice av rc.length cv] 40)).alloc (.cells #[.slice a1 l1 c1, .slice a2 l2 c2, .slice a3 l3 c3] 289)).alloc (.cells #[.int .i64 1, .int .i64 id, .string kd] 300))) := by
      have hB : Below w.heap.size w ((((w.alloc (.cells #[.map (some b1), .map (some b2)] 246)).alloc (.cells #[.int .i64 id, .string kd, .slice av rc.length cv] 40)).alloc (.cells #[.slice a1 l1 c1, .slice a2 l2 c2, .slice a3 l3 c3] 289)).alloc (.cells #[.int .i64 1, .int .i64 id, .string kd] 300)) := b_allocKC (b_allocKC HB0.out (Nat.le_refl _) _) (Nat.le_refl _) _
      refine ⟨_, rfl, ?_, MapIn.on HR.out.2.2 hB, but_of_below hB _⟩
      have := own_one ((((w.alloc (.cells #[.map (some b1), .map (some b2)] 246)).alloc (.cells #[.int .i64 id, .string kd, .slice av rc.length cv] 40)).alloc (.cells #[.slice a1 l1 c1, .slice a2 l2 c2, .slice a3 l3 c3] 289))) (base := w.heap.size) (by simp; omega) ⟨1, id, kd⟩
      simp only [World.size_alloc] at this
      exact this
    unfold box2 at hl g0 g1
    clear HOk hk HR HB0
    go_enter Tryz.func155, Tryz.ntmps155
    go_wp2
    go_ret
    exact HE.out
  | some h =>
    rw [hk] at hl HSh
    simp only [Option.isSome_some, Option.getD_some] at hl HSh
    have HO : Hid (ShOk h) := HOk.out kd h hk
    have HS1 : Hid (Below w.heap.size w ((box2 w #[.map (some b1), .map (some b2)] 246 #[.int .i64 id, .string kd, .slice av rc.length cv] 40).alloc (.cells #[.slice a1 h.kn.length c1, .slice a2 h.fs.length c2, .slice a3 h.bn.length c3] 289)).drew ∧ Below (box2 w #[.map (some b1), .map (some b2)] 246 #[.int .i64 id, .string kd, .slice av rc.length cv] 40).heap.size (box2 w #[.map (some b1), .map (some b2)] 246 #[.int .i64 id, .string kd, .slice av rc.length cv] 40) ((box2 w #[.map (some b1), .map (some b2)] 246 #[.int .i64 id, .string kd, .slice av rc.length cv] 40).alloc (.cells #[.slice a1 h.kn.length c1, .slice a2 h.fs.length c2, .slice a3 h.bn.length c3] 289)).drew) := ⟨b_drew (b_allocKC HB0.out (Nat.le_refl _) _), b_drew (b_allocKC (Below.refl _ _) (Nat.le_refl _) _)⟩
    have HX6 : Hid (Box6 (w.heap.size + 1 + 1) (w.heap.size + 1) (.slice a1 h.kn.length c1) (.slice a2 h.fs.length c2) (.slice a3 h.bn.length c3) (.int .i64 id) (.string kd) (.slice av rc.length cv) ((box2 w #[.map (some b1), .map (some b2)] 246 #[.int .i64 id, .string kd, .slice av rc.length cv] 40).alloc (.cells #[.slice a1 h.kn.length c1, .slice a2 h.fs.length c2, .slice a3 h.bn.length c3] 289)).drew) := by
      have hz : (box2 w #[.map (some b1), .map (some b2)] 246 #[.int .i64 id, .string kd, .slice av rc.length cv] 40).heap.size = w.heap.size + 1 + 1 := box2_size _ _ _ _ _
      have hn : ∀ i u, (#[.slice a1 h.kn.length c1, .slice a2 h.fs.length c2, .slice a3 h.bn.length c3] : Array Value)[i]? = some u → ((box2 w #[.map (some b1), .map (some b2)] 246 #[.int .i64 id, .string kd, .slice av rc.length cv] 40).alloc (.cells #[.slice a1 h.kn.length c1, .slice a2 h.fs.length c2, .slice a3 h.bn.length c3] 289)).drew.cell? ⟨w.heap.size + 1 + 1, i, none⟩ = some u := fun i u hu => by
        have := two_new (box2 w #[.map (some b1), .map (some b2)] 246 #[.int .i64 id, .string kd, .slice av rc.length cv] 40) #[.slice a1 h.kn.length c1, .slice a2 h.fs.length c2, .slice a3 h.bn.length c3] 289 hu
        rw [hz] at this
        exact this
      have ho : ∀ i u, (#[.int .i64 id, .string kd, .slice av rc.length cv] : Array Value)[i]? = some u → ((box2 w #[.map (some b1), .map (some b2)] 246 #[.int .i64 id, .string kd, .slice av rc.length cv] 40).alloc (.cells #[.slice a1 h.kn.length c1, .slice a2 h.fs.length c2, .slice a3 h.bn.length c3] 289)).drew.cell? ⟨w.heap.size + 1, i, none⟩ = some u := fun i u hu => (HS1.out.2.cell (by rw [hz]; simp)).trans (box2_b _ _ _ _ _ hu)
      exact ⟨⟨by simp, by simp⟩, ⟨hn 0 _ rfl, hn 1 _ rfl, hn 2 _ rfl⟩, ho 0 _ rfl, ho 1 _ rfl, ho 2 _ rfl⟩
    have c22 := propFaults_any (n := ⟨id, kd, .slice av rc.length cv, rc⟩) (HSh.out.on HS1.out.2) HO.out.2.1 (HR.out.1.on HS1.out.1) (rErr_len HR.out.2.1.2.1)
    have c23 := fun W2 (hB : Below ((box2 w #[.map (some b1), .map (some b2)] 246 #[.int .i64 id, .string kd, .slice av rc.length cv] 40).alloc (.cells #[.slice a1 h.kn.length c1, .slice a2 h.fs.length c2, .slice a3 h.bn.length c3] 289)).drew.heap.size ((box2 w #[.map (some b1), .map (some b2)] 246 #[.int .i64 id, .string kd, .slice av rc.length cv] 40).alloc (.cells #[.slice a1 h.kn.length c1, .slice a2 h.fs.length c2, .slice a3 h.bn.length c3] 289)).drew W2) => fieldFaults_any (n := ⟨id, kd, .slice av rc.length cv, rc⟩) ((HSh.out.on HS1.out.2).on hB) HO.out.2.1 HO.out.2.2.1 ((HR.out.1.on HS1.out.1).on hB) HR.out.2.1.1 HR.out.2.1.2.1 HR.out.2.1.2.2.1 ((MapIn.on HR.out.2.2 HS1.out.1).on hB)
    have HC22 : Hid (Calls Tryz.prog 195 #[.agg #[.slice a1 h.kn.length c1, .slice a2 h.fs.length c2, .slice a3 h.bn.length c3], .agg #[.int .i64 id, .string kd, .slice av rc.length cv]] ((box2 w #[.map (some b1), .map (some b2)] 246 #[.int .i64 id, .string kd, .slice av rc.length cv] 40).alloc (.cells #[.slice a1 h.kn.length c1, .slice a2 h.fs.length c2, .slice a3 h.bn.length c3] 289)).drew (XPost ((box2 w #[.map (some b1), .map (some b2)] 246 #[.int .i64 id, .string kd, .slice av rc.length cv] 40).alloc (.cells #[.slice a1 h.kn.length c1, .slice a2 h.fs.length c2, .slice a3 h.bn.length c3] 289)).drew (propF h.fs id rc))) := c22
    have HC23 : Hid (∀ W2, Below ((box2 w #[.map (some b1), .map (some b2)] 246 #[.int .i64 id, .string kd, .slice av rc.length cv] 40).alloc (.cells #[.slice a1 h.kn.length c1, .slice a2 h.fs.length c2, .slice a3 h.bn.length c3] 289)).drew.heap.size ((box2 w #[.map (some b1), .map (some b2)] 246 #[.int .i64 id, .string kd, .slice av rc.length cv] 40).alloc (.cells #[.slice a1 h.kn.length c1, .slice a2 h.fs.length c2, .slice a3 h.bn.length c3] 289)).drew W2 → Calls Tryz.prog 196 #[.agg #[.slice a1 h.kn.length c1, .slice a2 h.fs.length c2, .slice a3 h.bn.length c3], .agg #[.int .i64 id, .string kd, .slice av rc.length cv], .map (some bt)] W2 (FfPost W2 bt (fieldF h.fs id rc T).1 (fieldF h.fs id rc T).2)) := c23
    have HF : Hid (∀ W2 W3 u1 v1 w1, Below ((box2 w #[.map (some b1), .map (some b2)] 246 #[.int .i64 id, .string kd, .slice av rc.length cv] 40).alloc (.cells #[.slice a1 h.kn.length c1, .slice a2 h.fs.length c2, .slice a3 h.bn.length c3] 289)).drew.heap.size ((box2 w #[.map (some b1), .map (some b2)] 246 #[.int .i64 id, .string kd, .slice av rc.length cv] 40).alloc (.cells #[.slice a1 h.kn.length c1, .slice a2 h.fs.length c2, .slice a3 h.bn.length c3] 289)).drew W2 → World.grownBy W2 W3 (some bt) → OwnX W2 ((box2 w #[.map (some b1), .map (some b2)] 246 #[.int .i64 id, .string kd, .slice av rc.length cv] 40).alloc (.cells #[.slice a1 h.kn.length c1, .slice a2 h.fs.length c2, .slice a3 h.bn.length c3] 289)).drew.heap.size u1 (propF h.fs id rc) → MapIn W3 359 encQ bt (fieldF h.fs id rc T).2 → OwnX w1 ((box2 w #[.map (some b1), .map (some b2)] 246 #[.int .i64 id, .string kd, .slice av rc.length cv] 40).alloc (.cells #[.slice a1 h.kn.length c1, .slice a2 h.fs.length c2, .slice a3 h.bn.length c3] 289)).drew.heap.size v1 (propF h.fs id rc ++ (fieldF h.fs id rc T).1) → World.grownBy W3 w1 u1.ownBlock → FfPost w bt (ownF (some h) ⟨id, kd, .slice av rc.length cv, rc⟩ T).1 (ownF (some h) ⟨id, kd, .slice av rc.length cv, rc⟩ T).2 (.returned v1) w1) := by
      intro W2 W3 u1 v1 w1 hB2 hG3 hX1 hM3 hX hgr
      have hrow : ∀ g, u1.ownBlock = some g → w.heap.size < g := fun g hg => by
        have := (World.ownsRow.lt hX1 g hg).1
        simp at this
        omega
      refine ⟨v1, rfl, own_mono hX (by simp; omega), ?_, but_app (but_trans (but_of_below (HS1.out.1.trans (hB2.mono HS1.out.1.size)) _) hG3) hgr (fun g hg => by have := hrow g hg; omega)⟩
      exact OwnM.of_block hM3 (hgr.block _ (OwnM.lt hM3) (fun e => by have := hrow bt e.symm; omega))
    have HLn : Hid ((propF h.fs id rc).length + (fieldF h.fs id rc T).1.length ≤ 100000) := by
      have h1 := propF_len h.fs id rc
      have h2 := fieldF_len h.fs id rc T
      have h3 := rErr_len HR.out.2.1.2.1
      have h4 := HO.out.2.1
      show _ ≤ _
      simp only at h3
      omega
    have HK2 : Hid (∀ W2, Below ((box2 w #[.map (some b1), .map (some b2)] 246 #[.int .i64 id, .string kd, .slice av rc.length cv] 40).alloc (.cells #[.slice a1 h.kn.length c1, .slice a2 h.fs.length c2, .slice a3 h.bn.length c3] 289)).drew.heap.size ((box2 w #[.map (some b1), .map (some b2)] 246 #[.int .i64 id, .string kd, .slice av rc.length cv] 40).alloc (.cells #[.slice a1 h.kn.length c1, .slice a2 h.fs.length c2, .slice a3 h.bn.length c3] 289)).drew W2 → ∀ W3, World.grownBy W2 W3 (some bt) → Kp W2 W3) := fun W2 hB2 W3 hG => but_map ((MapIn.on HR.out.2.2 HS1.out.1).on hB2) hG
    have HBs : Hid (∀ W2 W3 u1, Below ((box2 w #[.map (some b1), .map (some b2)] 246 #[.int .i64 id, .string kd, .slice av rc.length cv] 40).alloc (.cells #[.slice a1 h.kn.length c1, .slice a2 h.fs.length c2, .slice a3 h.bn.length c3] 289)).drew.heap.size ((box2 w #[.map (some b1), .map (some b2)] 246 #[.int .i64 id, .string kd, .slice av rc.length cv] 40).alloc (.cells #[.slice a1 h.kn.length c1, .slice a2 h.fs.length c2, .slice a3 h.bn.length c3] 289)).drew W2 → World.grownBy W2 W3 (some bt) → OwnX W2 ((box2 w #[.map (some b1), .map (some b2)] 246 #[.int .i64 id, .string kd, .slice av rc.length cv] 40).alloc (.cells #[.slice a1 h.kn.length c1, .slice a2 h.fs.length c2, .slice a3 h.bn.length c3] 289)).drew.heap.size u1 (propF h.fs id rc) → OwnX W3 ((box2 w #[.map (some b1), .map (some b2)] 246 #[.int .i64 id, .string kd, .slice av rc.length cv] 40).alloc (.cells #[.slice a1 h.kn.length c1, .slice a2 h.fs.length c2, .slice a3 h.bn.length c3] 289)).drew.heap.size u1 (propF h.fs id rc) ∧ ((box2 w #[.map (some b1), .map (some b2)] 246 #[.int .i64 id, .string kd, .slice av rc.length cv] 40).alloc (.cells #[.slice a1 h.kn.length c1, .slice a2 h.fs.length c2, .slice a3 h.bn.length c3] 289)).drew.heap.size ≤ W3.heap.size ∧ ∀ g, u1.ownBlock = some g → w.heap.size + 1 + 1 < g ∧ w.heap.size + 1 < g) := fun W2 W3 u1 hB2 hG hX => ⟨own_but hX hG (by simp; omega), Nat.le_trans hB2.size hG.size, fun g hg => by
      have := (World.ownsRow.lt hX g hg).1
      simp at this
      omega⟩
    unfold box2 at hl HX6 HC22 HC23 HF HK2 HBs
    have HX7 : Hid (Box6 (w.heap.size + 1 + 1) (w.heap.size + 1) (.slice a1 h.kn.length c1) (.slice a2 h.fs.length c2) (.slice a3 h.bn.length c3) (.int .i64 id) (.string kd) (.slice av rc.length cv) (((w.alloc (.cells #[.map (some b1), .map (some b2)] 246)).alloc (.cells #[.int .i64 id, .string kd, .slice av rc.length cv] 40)).alloc (.cells #[.slice a1 h.kn.length c1, .slice a2 h.fs.length c2, .slice a3 h.bn.length c3] 289))) := HX6.out
    clear HOk hk HR HB0 c22 c23 HSh HS1 HO
    go_enter Tryz.func155, Tryz.ntmps155
    go_wp2
    obtain ⟨_, ⟨o0, o1, o2⟩, ⟨o3, o4, o5⟩⟩ := HX7.out
    first | (go_region_held_law (fun w' => w'.cell? ⟨w.heap.size + 1 + 1, 0, none⟩ = some (.slice a1 h.kn.length c1) ∧ w'.cell? ⟨w.heap.size + 1 + 1, 1, none⟩ = some (.slice a2 h.fs.length c2) ∧ w'.cell? ⟨w.heap.size + 1 + 1, 2, none⟩ = some (.slice a3 h.bn.length c3) ∧ w'.cell? ⟨w.heap.size + 1, 0, none⟩ = some (.int .i64 id) ∧ w'.cell? ⟨w.heap.size + 1, 1, none⟩ = some (.string kd) ∧ w'.cell? ⟨w.heap.size + 1, 2, none⟩ = some (.slice av rc.length cv)) (go_keep) (first | (refine step_appX rfl (.tmp 27) (.tmp 31) rfl (by simp [Act.eval, Act.put]) (by simp [Act.eval, Act.put]) (HBs.out W2 W3 u1 hB2 hG3 hX1).1 hX2 HLn.out (HBs.out W2 W3 u1 hB2 hG3 hX1).2.1 ?_; intro v1 w1 hX hgr; have HEnd := Lib.hid (HF.out W2 W3 u1 v1 w1 hB2 hG3 hX1 hM3 hX hgr); obtain ⟨_, ⟨s0, s1, s2⟩, ⟨s3, s4, s5⟩⟩ := (h63.app hgr (HBs.out W2 W3 u1 hB2 hG3 hX1).2.2)) | (go_simp; go_at_call 195; refine HC22.out.mono ?_; rintro e W2 ⟨u1, rfl, hX1, hB2⟩; obtain ⟨_, ⟨p0, p1, p2⟩, ⟨p3, p4, p5⟩⟩ := HX6.out.kp (Kp.of_below hB2)) | (go_simp; go_at_call 196; refine (HC23.out W2 hB2).mono ?_; rintro e W3 ⟨u2, rfl, hX2, hM3, hG3⟩; have h63 := (HX6.out.kp (Kp.of_below hB2)).kp (HK2.out W2 hB2 W3 hG3); obtain ⟨_, ⟨q0, q1, q2⟩, ⟨q3, q4, q5⟩⟩ := h63.kp (Kp.refl _)))) | fail
    all_goals
      go_wp2
      go_ret
      exact ret_eq (Post := FfPost w bt _ _) (by simp) HEnd.out
theorem bondS_len (id : Int) (O : Ou) (l : List Ft) (x : Bd) : (bondS id O l x).length ≤ l.length + 1 := by
  unfold bondS; split
  · simp
  · split <;> simp
theorem bondF_len (bn : List Bd) (id : Int) (O : Ou) : (bondF bn id O).length ≤ bn.length := by
  have := fold_len (bondS id O) (bondS_len id O) bn []
  simpa [bondF] using this
theorem bondS_few {id : Int} {O : Ou} {l : List Ft} {x : Bd} (h : cnt O id x < x.mn) : bondS id O l x = l ++ [⟨7, id, bs x.nm⟩] := by unfold bondS; rw [if_pos h]
theorem bondS_many {id : Int} {O : Ou} {l : List Ft} {x : Bd} (h : ¬ cnt O id x < x.mn) (h1 : 0 ≤ x.mx) (h2 : x.mx < cnt O id x) : bondS id O l x = l ++ [⟨8, id, bs x.nm⟩] := by unfold bondS; rw [if_neg h, if_pos (by simp [h1, h2])]
theorem bondS_ok {id : Int} {O : Ou} {l : List Ft} {x : Bd} (h : ¬ cnt O id x < x.mn) (h1 : ¬ (0 ≤ x.mx ∧ x.mx < cnt O id x)) : bondS id O l x = l := by unfold bondS; rw [if_neg h, if_neg (by simpa using h1)]
theorem size2 (w : World) (a b : Obj) : w.heap.size ≤ ((w.alloc a).alloc b).heap.size := by simp; omega
theorem new_at1 (w : World) (o1 : Obj) (f : Ft) : ∀ j u, f.cells[j]? = some u → ((w.alloc o1).alloc (.cells #[.int .i64 f.wh, .int .i64 f.id, .string f.nm] 300)).cell? ((⟨w.heap.size + 1, 0, none⟩ : Addr).add j) = some u := by
  have := new_atC (w.alloc o1) f.cells 300
  simp only [World.size_alloc] at this
  exact this
theorem IsB.at {w : World} {v : Value} {L : List Bd} (h : IsB w v L) {k : Nat} {x : Bd} (hx : L[k]? = some x) : ∃ b off c, v = .slice (some ⟨b, off, none⟩) L.length c ∧ b < w.heap.size ∧ w.cell? ⟨b, off + k * 5, none⟩ = some (.string (bs x.nm)) ∧ w.cell? ⟨b, off + k * 5 + 1, none⟩ = some (.string (bs x.fr)) ∧ w.cell? ⟨b, off + k * 5 + 2, none⟩ = some (.string (bs x.tt)) ∧ w.cell? ⟨b, off + k * 5 + 3, none⟩ = some (.int .i64 x.mn) ∧ w.cell? ⟨b, off + k * 5 + 4, none⟩ = some (.int .i64 x.mx) := by
  rcases h with ⟨rfl, rfl⟩ | ⟨b, off, cap, rfl, hcap, hm, hb, hl⟩
  · simp at hx
  · exact ⟨b, off, cap, rfl, hb, hl k x hx⟩
set_option maxHeartbeats 8000000 in
set_option maxRecDepth 100000 in
theorem bondFaults_any {v : Value} {h : Sh} {n : Nd} {w : World} {bo : Nat} {O : Ou} (hs : IsSh w v h) (hb12 : h.bn.length ≤ 12) (hbz : ∀ x ∈ h.bn, x.nm.length ≤ maxLen) (hr : IsR w n.rv n.rc) (hid : in64 n.id) (hm : MapIn w 294 encE bo O) :
    Calls Tryz.prog 156 #[v, n.one, .map (some bo)] w (XPost w (bondF h.bn n.id O)) := by
  obtain ⟨i0, hi0, hz0, hz1, hz2⟩ := info_parts infoX
  obtain ⟨vk, vf, vb, rfl, h1, h2, h3⟩ := hs
  have HB : Hid (IsB w vb h.bn) := h3
  obtain ⟨a1, c1, rfl, _⟩ := h1.sln
  obtain ⟨a2, c2, rfl, _⟩ := h2.sln
  obtain ⟨a3, c3, rfl, _⟩ := h3.sln
  obtain ⟨id, kd, rv, rc⟩ := n
  simp only at hr hid ⊢
  have HM : Hid (MapIn w 294 encE bo O ∧ in64 id) := ⟨hm, hid⟩
  obtain ⟨av, cv, rfl, _⟩ := hr
  have HBz : Hid (∀ x ∈ h.bn, x.nm.length ≤ maxLen) := hbz
  obtain ⟨bn, hbn⟩ : ∃ bn, bn = h.bn := ⟨_, rfl⟩
  rw [← hbn] at HB hb12 HBz ⊢
  generalize h.kn.length = lk
  generalize h.fs.length = lf
  generalize rc.length = lr
  clear hbn h1 h2 h3 hm hid hbz
  have HB0 : Hid (Below w.heap.size w (box2 w #[.slice a1 lk c1, .slice a2 lf c2, .slice a3 bn.length c3] 289 #[.int .i64 id, .string kd, .slice av lr cv] 40)) := box2_below _ _ _ _ _
  have HC : Hid ((box2 w #[.slice a1 lk c1, .slice a2 lf c2, .slice a3 bn.length c3] 289 #[.int .i64 id, .string kd, .slice av lr cv] 40).cell? ⟨w.heap.size + 1, 0, none⟩ = some (.int .i64 id)) := box2_b _ _ _ _ _ rfl
  go_enter Tryz.func156, Tryz.ntmps156
  go_wp2
  go_loopw [6, 13] (fun u i wr => ∃ k : Nat, k ≤ bn.length ∧ i = .int .i64 k ∧ OwnX wr (w.heap.size + 2) u ((bn.take k).foldl (bondS id O) []) ∧ Below (w.heap.size + 2) (box2 w #[.slice a1 lk c1, .slice a2 lf c2, .slice a3 bn.length c3] 289 #[.int .i64 id, .string kd, .slice av lr cv] 40) wr) (fun _ i _ => bn.length - (intOf i).toNat)
  case atStart => exact ⟨0, Nat.zero_le _, rfl, World.ownsRow_nil _ _ _ _, Below.refl _ _⟩
  case round =>
    obtain ⟨k, hk, rfl, hO, hB⟩ := hrel
    have HR : Hid (OwnX wr (w.heap.size + 2) u6 ((bn.take k).foldl (bondS id O) []) ∧ Below (w.heap.size + 2) (box2 w #[.slice a1 lk c1, .slice a2 lf c2, .slice a3 bn.length c3] 289 #[.int .i64 id, .string kd, .slice av lr cv] 40) wr) := ⟨hO, hB⟩
    have g2 : wr.cell? ⟨w.heap.size + 1, 0, none⟩ = some (.int .i64 id) := (hB.cell (by simp)).trans HC.out
    have hws : w.heap.size + 2 ≤ wr.heap.size := by have := hB.size; rw [box2_size] at this; exact this
    have HW : Hid (Below w.heap.size w wr) := HB0.out.trans (hB.mono (by omega))
    clear hO hB
    by_cases hlt : k < bn.length
    · obtain ⟨x, hx⟩ : ∃ x, bn[k]? = some x := ⟨bn[k], by simp [hlt]⟩
      obtain ⟨b, off, c, hv, hb, e0, e1, e2, e3, e4⟩ := HB.out.at hx
      injection hv with hv1 hv2 hv3
      subst hv1 hv3
      clear hv2
      have d0 := (HW.out.cell (p := ⟨b, off + k * 5, none⟩) hb).trans e0
      have d1 := (HW.out.cell (p := ⟨b, off + k * 5 + 1, none⟩) hb).trans e1
      have d2 := (HW.out.cell (p := ⟨b, off + k * 5 + 2, none⟩) hb).trans e2
      have d3 := (HW.out.cell (p := ⟨b, off + k * 5 + 3, none⟩) hb).trans e3
      have d4 := (HW.out.cell (p := ⟨b, off + k * 5 + 4, none⟩) hb).trans e4
      have HT : Hid (((bn.take (k + 1)).foldl (bondS id O) []) = bondS id O ((bn.take k).foldl (bondS id O) []) x) := foldl_take _ _ hx
      have HKey : Hid (∃ l, keyOf Tryz.prog 294 (encE (bs x.nm, id)) = some l) := keyE (by rw [bs_size]; exact HBz.out x (List.mem_of_getElem? hx)) HM.out.2
      have HL : Hid (((bn.take k).foldl (bondS id O) []).length ≤ 12) := by
        have := bondF_len (bn.take k) id O
        simp [bondF] at this
        show _ ≤ _
        omega
      obtain ⟨nm, fr, tt, mn, mx⟩ := x
      simp only at d0 d1 d2 d3 d4
      have HB1 : Hid (Below wr.heap.size wr (wr.alloc (.cells #[.string (bs nm), .string (bs fr), .string (bs tt), .int .i64 mn, .int .i64 mx] 54))) := b_allocKC (Below.refl _ _) (Nat.le_refl _) _
      have y0 : (wr.alloc (.cells #[.string (bs nm), .string (bs fr), .string (bs tt), .int .i64 mn, .int .i64 mx] 54)).cell? ⟨wr.heap.size, 0, none⟩ = some (.string (bs nm)) := two_new _ _ _ rfl
      have y3 : (wr.alloc (.cells #[.string (bs nm), .string (bs fr), .string (bs tt), .int .i64 mn, .int .i64 mx] 54)).cell? ⟨wr.heap.size, 3, none⟩ = some (.int .i64 mn) := two_new _ _ _ rfl
      have y4 : (wr.alloc (.cells #[.string (bs nm), .string (bs fr), .string (bs tt), .int .i64 mn, .int .i64 mx] 54)).cell? ⟨wr.heap.size, 4, none⟩ = some (.int .i64 mx) := two_new _ _ _ rfl
      have z0 : (wr.alloc (.cells #[.string (bs nm), .string (bs fr), .string (bs tt), .int .i64 mn, .int .i64 mx] 54)).cell? ⟨w.heap.size + 1, 0, none⟩ = some (.int .i64 id) := (HB1.out.cell (by show w.heap.size + 1 < _; omega)).trans g2
      obtain ⟨kl, hkl⟩ := HKey.out
      have hlook := look_in (MapIn.on (MapIn.on HM.out.1 HW.out) HB1.out) keyedE encE_inj Tryz.underlying292 (zero3 _) hkl
      obtain ⟨z, hzz⟩ : ∃ z, z = (O (bs nm, id)).getD 0 := ⟨_, rfl⟩
      rw [← hzz] at hlook
      have HZ : Hid (cnt O id ⟨nm, fr, tt, mn, mx⟩ = z) := hzz.symm
      have HX : Hid (OwnX (wr.alloc (.cells #[.string (bs nm), .string (bs fr), .string (bs tt), .int .i64 mn, .int .i64 mx] 54)) (w.heap.size + 2) u6 ((bn.take k).foldl (bondS id O) []) ∧ ((bn.take k).foldl (bondS id O) []).length + 1 ≤ maxLen ∧ (((bn.take k).foldl (bondS id O) []).length + 1) * 32 ≤ 140737488355328 ∧ w.heap.size + 2 ≤ wr.heap.size) := ⟨own_below HR.out.1 HB1.out, by have := HL.out; unfold maxLen; omega, by have := HL.out; omega, hws⟩
      simp only [encE] at hlook
      have hbn : ¬ b = wr.heap.size := by have := HW.out.size; omega
      clear hkl hzz e0 e1 e2 e3 e4 hx
      by_cases q1 : z < mn
      · skip
        have HSt : Hid (((bn.take (k + 1)).foldl (bondS id O) []) = ((bn.take k).foldl (bondS id O) []) ++ [⟨7, id, bs nm⟩]) := by
          show _ = _
          rw [HT.out]; exact bondS_few (by rw [HZ.out]; exact q1)
        go_wp2_with (at_builtin; refine wpList_append_own _ rfl (.tmp 29) (.tmp 35) 188 rfl (w.heap.size + 2) 300 i0 _ 3 32 Tryz.underlying188 hi0 hz0 hz1 hz2 rfl (by decide) u6 ((bn.take k).foldl (bondS id O) []).length (cellsX ((bn.take k).foldl (bondS id O) [])) rfl (HX.out.1.alloc _) ⟨wr.heap.size + 1, 0, none⟩ 1 1 (Ft.mk 7 id (bs nm)).cells rfl rfl (new_at1 wr _ _) (ft_one _) HX.out.2.1 HX.out.2.2.1 (Nat.le_trans HX.out.2.2.2 (size2 _ _ _)) ?_; intro v1 w1 hown1 hgrow1 _)
        have HN : Hid (OwnX w1 (w.heap.size + 2) v1 ((bn.take (k + 1)).foldl (bondS id O) []) ∧ Below (w.heap.size + 2) (box2 w #[.slice a1 lk c1, .slice a2 lf c2, .slice (some ⟨b, off, none⟩) bn.length c3] 289 #[.int .i64 id, .string kd, .slice av lr cv] 40) w1) := by
          refine ⟨?_, own_more HR.out.1 HR.out.2 hws HB1.out hgrow1⟩
          rw [HSt.out]; unfold OwnX; rw [cellsX_snoc, List.length_append]; exact hown1
        clear hown1 hgrow1
        go_roundw
        case rel => exact ⟨k + 1, by omega, by go_num, HN.out.1, HN.out.2⟩
        case measure => simp [intOf]; omega
      · by_cases q2 : 0 ≤ mx
        · by_cases q3 : mx < z
          · skip
            have HSt : Hid (((bn.take (k + 1)).foldl (bondS id O) []) = ((bn.take k).foldl (bondS id O) []) ++ [⟨8, id, bs nm⟩]) := by
              show _ = _
              rw [HT.out]; exact bondS_many (by rw [HZ.out]; exact q1) q2 (by rw [HZ.out]; exact q3)
            go_wp2_with (at_builtin; refine wpList_append_own _ rfl (.tmp 47) (.tmp 53) 188 rfl (w.heap.size + 2) 300 i0 _ 3 32 Tryz.underlying188 hi0 hz0 hz1 hz2 rfl (by decide) u6 ((bn.take k).foldl (bondS id O) []).length (cellsX ((bn.take k).foldl (bondS id O) [])) rfl (HX.out.1.alloc _) ⟨wr.heap.size + 1, 0, none⟩ 1 1 (Ft.mk 8 id (bs nm)).cells rfl rfl (new_at1 wr _ _) (ft_one _) HX.out.2.1 HX.out.2.2.1 (Nat.le_trans HX.out.2.2.2 (size2 _ _ _)) ?_; intro v1 w1 hown1 hgrow1 _)
            have HN : Hid (OwnX w1 (w.heap.size + 2) v1 ((bn.take (k + 1)).foldl (bondS id O) []) ∧ Below (w.heap.size + 2) (box2 w #[.slice a1 lk c1, .slice a2 lf c2, .slice (some ⟨b, off, none⟩) bn.length c3] 289 #[.int .i64 id, .string kd, .slice av lr cv] 40) w1) := by
              refine ⟨?_, own_more HR.out.1 HR.out.2 hws HB1.out hgrow1⟩
              rw [HSt.out]; unfold OwnX; rw [cellsX_snoc, List.length_append]; exact hown1
            clear hown1 hgrow1
            go_roundw
            case rel => exact ⟨k + 1, by omega, by go_num, HN.out.1, HN.out.2⟩
            case measure => simp [intOf]; omega
          · skip
            have HSt : Hid (((bn.take (k + 1)).foldl (bondS id O) []) = ((bn.take k).foldl (bondS id O) [])) := by
              show _ = _
              rw [HT.out]; exact bondS_ok (by rw [HZ.out]; exact q1) (by rw [HZ.out]; exact fun h => q3 h.2)
            have HN : Hid (OwnX (wr.alloc (.cells #[.string (bs nm), .string (bs fr), .string (bs tt), .int .i64 mn, .int .i64 mx] 54)) (w.heap.size + 2) u6 ((bn.take (k + 1)).foldl (bondS id O) []) ∧ Below (w.heap.size + 2) (box2 w #[.slice a1 lk c1, .slice a2 lf c2, .slice (some ⟨b, off, none⟩) bn.length c3] 289 #[.int .i64 id, .string kd, .slice av lr cv] 40) (wr.alloc (.cells #[.string (bs nm), .string (bs fr), .string (bs tt), .int .i64 mn, .int .i64 mx] 54))) := ⟨by rw [HSt.out]; exact HX.out.1, HR.out.2.trans (HB1.out.mono hws)⟩
            go_wp2
            go_roundw
            case rel => exact ⟨k + 1, by omega, by go_num, HN.out.1, HN.out.2⟩
            case measure => simp [intOf]; omega
        · skip
          have HSt : Hid (((bn.take (k + 1)).foldl (bondS id O) []) = ((bn.take k).foldl (bondS id O) [])) := by
            show _ = _
            rw [HT.out]; exact bondS_ok (by rw [HZ.out]; exact q1) (fun h => q2 h.1)
          have HN : Hid (OwnX (wr.alloc (.cells #[.string (bs nm), .string (bs fr), .string (bs tt), .int .i64 mn, .int .i64 mx] 54)) (w.heap.size + 2) u6 ((bn.take (k + 1)).foldl (bondS id O) []) ∧ Below (w.heap.size + 2) (box2 w #[.slice a1 lk c1, .slice a2 lf c2, .slice (some ⟨b, off, none⟩) bn.length c3] 289 #[.int .i64 id, .string kd, .slice av lr cv] 40) (wr.alloc (.cells #[.string (bs nm), .string (bs fr), .string (bs tt), .int .i64 mn, .int .i64 mx] 54))) := ⟨by rw [HSt.out]; exact HX.out.1, HR.out.2.trans (HB1.out.mono hws)⟩
          go_wp2
          go_roundw
          case rel => exact ⟨k + 1, by omega, by go_num, HN.out.1, HN.out.2⟩
          case measure => simp [intOf]; omega
    · obtain rfl : k = bn.length := by omega
      have HE : Hid (XPost w (bondF bn id O) (.returned u6) wr) := ⟨u6, rfl, own_baseC (by have := HR.out.1; rw [List.take_length] at this; exact this) (by omega), HW.out⟩
      clear hlt
      go_wp2
      go_ret
      exact HE.out
end Go.Proofs.YtahamkajkkkjdaaGreatDoor
