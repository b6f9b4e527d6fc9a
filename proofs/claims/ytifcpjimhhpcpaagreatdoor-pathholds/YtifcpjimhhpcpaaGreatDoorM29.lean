/-
  The walks of path.tied, of the closure that Walk hands on, and of slices.Concat of two lists of integers.
-/
import Derived.Test.YtifcpjimhhpcpaaGreatDoorM28
import Derived.Shelf.Spec.SlicesGrow
namespace Go.Proofs.YtifcpjimhhpcpaaGreatDoor
open Go.RowKit Go.Shelf
set_option linter.unusedVariables false
set_option linter.unusedSimpArgs false

set_option maxHeartbeats 2000000 in
set_option maxRecDepth 100000 in
theorem tied_any {v : Value} {T : List Te} {w : World} (h : IsT w v T) (hs : SrtT T) (hn : T.length ≤ 1000) (p : Sp) (hp : IsTs w p.vt p.ts) (a b : Int) :
    Calls Tryz.prog 18 #[v, p.one, .int .i64 a, .int .i64 b] w fun e w' => e = .returned (.bool (tiedB T p a b)) ∧ Below w.heap.size w w' := by
  obtain ⟨at', ct, hv⟩ := hp.sl
  obtain ⟨bd, back, kd, vt, ts⟩ := p
  simp only at hv
  subst hv
  obtain ⟨W0, hW0⟩ : ∃ W0, W0 = w.alloc (.cells #[.string (bs bd), .bool back, .string (bs kd), .slice at' ts.length ct] 46) := ⟨_, rfl⟩
  have hB0 : Below w.heap.size w W0 := by rw [hW0]; exact b_alloc (Below.refl _ _) _
  have n0 : W0.heap[w.heap.size]? = some (.cells #[.string (bs bd), .bool back, .string (bs kd), .slice at' ts.length ct] 46 (0, 0)) := by rw [hW0]; exact heap_alloc_new w _
  have k0 : W0.cell? ⟨w.heap.size, 0, none⟩ = some (.string (bs bd)) := cell_at n0 rfl
  have k1 : W0.cell? ⟨w.heap.size, 1, none⟩ = some (.bool back) := cell_at n0 rfl
  have HE : Hid (tiedB T ⟨bd, back, kd, .slice at' ts.length ct, ts⟩ a b = fndT ⟨bs bd, endA back a b, endA back b a⟩ T) := rfl
  rw [HE.out]
  have cT := fun W => turnI_any back a b W
  generalize endA back a b = x at cT ⊢
  generalize endA back b a = y at cT ⊢
  have cS := searchT_any (h.on hB0) hs hn ⟨bs bd, x, y⟩
  unfold Te.one at cS
  simp only at cS
  obtain ⟨am, cm, rfl, _⟩ := h
  generalize loT ⟨bs bd, x, y⟩ T = lo at cS
  generalize fndT ⟨bs bd, x, y⟩ T = fd at cS ⊢
  have HB0 := Lib.hid hB0
  clear hp hs n0 hB0 HE
  go_enter Tryz.func18, Tryz.ntmps18
  go_upto_region 1 with fail
  rw [← hW0]
  clear hW0
  go_wp2_with (first | (go_at_call 36; refine (cT _).mono ?_; rintro e W1 ⟨rfl, hW1⟩; subst hW1) | (go_at_call 37; refine cS.mono ?_; rintro e W2 ⟨rfl, hB2⟩))
  go_ret
  exact ⟨rfl, on1 HB0.out hB2⟩

set_option maxHeartbeats 1000000 in
set_option maxRecDepth 100000 in
/-- The closure: g is where the graph lies, q where the step lies. -/
theorem leads_any {vt : Value} {T : List Te} {w : World} {g q : Nat} (p : Sp) (hg : w.cell? ⟨g, 1, none⟩ = some vt) (h0 : w.cell? ⟨q, 0, none⟩ = some (.string (bs p.bd))) (h1 : w.cell? ⟨q, 1, none⟩ = some (.bool p.back)) (h2 : w.cell? ⟨q, 2, none⟩ = some (.string (bs p.kd))) (h3 : w.cell? ⟨q, 3, none⟩ = some p.vt)
    (h : IsT w vt T) (hs : SrtT T) (hn : T.length ≤ 1000) (hp : IsTs w p.vt p.ts) (a b : Int) :
    Calls Tryz.prog 17 #[.int .i64 a, .int .i64 b, .pointer (some ⟨g, 0, none⟩), .pointer (some ⟨q, 0, none⟩)] w fun e w' => e = .returned (.bool (tiedB T p a b)) ∧ Below w.heap.size w w' := by
  have cT := tied_any h hs hn p hp a b
  obtain ⟨am, cm, rfl, _⟩ := h
  obtain ⟨at', ct, hv⟩ := hp.sl
  unfold Sp.one at cT
  rw [hv] at cT h3
  generalize tiedB T p a b = r at cT ⊢
  clear hp hs hv
  go_enter Tryz.func17, Tryz.ntmps17
  go_wp2_with (go_at_call 18; refine cT.mono ?_; rintro e W1 ⟨rfl, hB1⟩)
  go_ret
  exact ⟨rfl, hB1⟩

def growRenI : Go.Shelf.Ren := ⟨fun | 4 => 61 | n => n, fun | 22 => 47 | 25 => 3 | n => n, fun | n => n⟩
theorem growLaysI : Go.Proofs.Lays8.n4 Tryz.prog growRenI := {
  mixed := by kernel_rfl
  f4 := ⟨ "slices.Grow[[]int,int]", by decide, Tryz.func61.trans (congrArg some (by kernel_rfl))⟩
  t0 := Tryz.underlying0
  a0 := Tryz.isAgg0
  z0 := Tryz.sizeOf0
  v0 := Tryz.zeroValue0
  t3 := Tryz.underlying3
  a3 := Tryz.isAgg3
  z3 := Tryz.sizeOf3
  v3 := Tryz.zeroValue3
  t4 := Tryz.underlying4
  a4 := Tryz.isAgg4
  z4 := Tryz.sizeOf4
  v4 := Tryz.zeroValue4
  t9 := Tryz.underlying9
  a9 := Tryz.isAgg9
  z9 := Tryz.sizeOf9
  v9 := Tryz.zeroValue9
  t20 := Tryz.underlying20
  a20 := Tryz.isAgg20
  z20 := Tryz.sizeOf20
  v20 := Tryz.zeroValue20
  t22 := Tryz.underlying47
  a22 := Tryz.isAgg47
  z22 := Tryz.sizeOf47
  v22 := Tryz.zeroValue47 }
theorem growI_any (n : Nat) (hn : n ≤ 16) (h0 : 0 < n) (w : World) :
    Calls Tryz.prog 61 #[.slice none 0 0, .int .i64 n] w fun e w' => ∃ v, e = .returned v ∧ w'.ownsRow w.heap.size 3 1 v 0 [] ∧ Below w.heap.size w w' := by
  obtain ⟨i0, hi0, hz0, hz1, hz2⟩ := info_parts infoI
  refine (Any8.slices_Grow_grow growLaysI i0 _ hi0 hz0 (by omega) none 0 0 n [] w (Nat.le_refl _) (by omega) (by rw [hz2]; omega) (by omega) (by simp) (fun _ => rfl) (fun a ha => by cases ha)).mono ?_
  rintro e w' ⟨rfl, rfl⟩
  have hge := grownCap_ge w (0 + n) 0 3
  have hcm := grownCap_le_maxLen w (0 + n) 0 3 (by unfold maxLen; omega)
  refine ⟨_, rfl, World.ownsRow_made (w := w.drew) _ _ (Nat.le_refl _) hcm ?_, b_alloc (Below.refl _ _).drew _⟩
  simp only [Array.size_append, List.size_toArray, List.length_nil, size_zeroCells]
  show 0 + (0 + n - 0) * 1 + (grownCap w (0 + n) 0 3 - (0 + n)) * 1 = grownCap w (0 + n) 0 3 * 1
  omega

/-- A list of integers at an address, or none. -/
def AtI (w : World) (v : Value) (L : List Int) : Prop := (v = .slice none 0 0 ∧ L = []) ∨ ∃ b cap, v = .slice (some ⟨b, 0, none⟩) L.length cap ∧ b < w.heap.size ∧ ∀ k x, L[k]? = some x → w.cell? ⟨b, k, none⟩ = some (.int .i64 x)
theorem IsI.at {w : World} {v : Value} {L : List Int} (h : IsI w v L) : AtI w v L := by
  rcases h with h | ⟨b, cap, h1, _, h2, h3⟩
  · exact .inl h
  · exact .inr ⟨b, cap, h1, h2, h3⟩
theorem cellsI_at {w : World} {b : Nat} {L : List Int} (h : ∀ k x, L[k]? = some x → w.cell? ⟨b, k, none⟩ = some (.int .i64 x)) : ∀ j u, (cellsI L)[j]? = some u → w.cell? ((⟨b, 0, none⟩ : Addr).add j) = some u := fun j u hu => by
  unfold cellsI at hu
  rw [List.getElem?_map] at hu
  cases e : L[j]? with
  | none => rw [e] at hu; cases hu
  | some x =>
    rw [e] at hu
    obtain rfl := Option.some.inj hu
    rw [Addr.add_lit, Nat.zero_add]
    exact h j x e
/-- The size so far, the parts so far. -/
def szI (a b k : Nat) : Nat := if k = 0 then 0 else if k = 1 then a else a + b
def partI (X Y : List Int) (k : Nat) : List Int := if k = 0 then [] else if k = 1 then X else X ++ Y
def CI1 (w : World) (a b : Nat) (s i : Value) (wr : World) : Prop := ∃ k : Nat, k ≤ 2 ∧ i = .int .i64 k ∧ s = .int .i64 (szI a b k) ∧ wr = w
def CI2 (w : World) (X Y : List Int) (v i : Value) (wr : World) : Prop := ∃ k : Nat, k ≤ 2 ∧ i = .int .i64 k ∧ wr.ownsRow w.heap.size 3 1 v (partI X Y k).length (cellsI (partI X Y k)) ∧ Below w.heap.size w wr

set_option maxHeartbeats 4000000 in
set_option maxRecDepth 100000 in
theorem concatI_two (bs : Nat) (b1 b2 : Nat) (ca cb : Nat) (X Y : List Int) (w : World) (hX : X.length ≤ 8) (hY : Y.length ≤ 8) (hY0 : 0 < Y.length) (hbs : bs < w.heap.size) (h1 : b1 < w.heap.size) (h2 : b2 < w.heap.size)
    (c0 : w.cell? ⟨bs, 0, none⟩ = some (.slice (some ⟨b1, 0, none⟩) X.length ca)) (c1 : w.cell? ⟨bs, 1, none⟩ = some (.slice (some ⟨b2, 0, none⟩) Y.length cb)) (hA : ∀ j u, (cellsI X)[j]? = some u → w.cell? ((⟨b1, 0, none⟩ : Addr).add j) = some u) (hC : ∀ j u, (cellsI Y)[j]? = some u → w.cell? ((⟨b2, 0, none⟩ : Addr).add j) = some u) :
    Calls Tryz.prog 32 #[.slice (some ⟨bs, 0, none⟩) 2 2] w fun e w' => ∃ v, e = .returned v ∧ w'.ownsRow w.heap.size 3 1 v (X ++ Y).length (cellsI (X ++ Y)) ∧ Below w.heap.size w w' := by
  obtain ⟨i0, hi0, hz0, hz1, hz2⟩ := info_parts infoI
  have HA : Hid ((∀ j u, (cellsI X)[j]? = some u → w.cell? ((⟨b1, 0, none⟩ : Addr).add j) = some u) ∧ ∀ j u, (cellsI Y)[j]? = some u → w.cell? ((⟨b2, 0, none⟩ : Addr).add j) = some u) := ⟨hA, hC⟩
  clear hA hC
  go_enter Tryz.func32, Tryz.ntmps32
  go_wp2
  go_loopw [3, 11] (fun s i wr => CI1 w X.length Y.length s i wr) (fun _ i _ => 2 - (intOf i).toNat)
  case atStart => exact ⟨0, Nat.zero_le _, rfl, rfl, rfl⟩
  case round =>
    obtain ⟨k, hk, rfl, rfl, hw⟩ := hrel
    have hw' := hw.symm
    subst hw'
    obtain rfl | rfl | rfl : k = 0 ∨ k = 1 ∨ k = 2 := by omega
    · have R' : Hid (CI1 w X.length Y.length (.int .i64 (X.length : Int)) (.int .i64 1) w) := ⟨1, by omega, rfl, by simp [szI], rfl⟩
      have hs0 : ((szI X.length Y.length 0 : Nat) : Int) = 0 := rfl
      rw [hs0]
      go_wp2
      refine ⟨?_, ?_⟩
      · first | exact R'.out | ((repeat apply Exists.intro); refine ⟨?_, rfl⟩; exact R'.out)
      · simp [intOf]
    · have R' : Hid (CI1 w X.length Y.length (.int .i64 ((X.length : Int) + (Y.length : Int))) (.int .i64 2) w) := ⟨2, by omega, rfl, by simp [szI], rfl⟩
      have hs1 : ((szI X.length Y.length 1 : Nat) : Int) = (X.length : Int) := rfl
      rw [hs1]
      go_wp2
      refine ⟨?_, ?_⟩
      · first | exact R'.out | ((repeat apply Exists.intro); refine ⟨?_, rfl⟩; exact R'.out)
      · simp [intOf]
    · have hcg := growI_any (X.length + Y.length) (by omega) (by omega) w
      have hs2 : ((szI X.length Y.length 2 : Nat) : Int) = ((X.length + Y.length : Nat) : Int) := rfl
      rw [hs2]
      go_wp2_with (go_at_call 61; refine hcg.mono ?_; rintro e W1 ⟨v1, rfl, hown, hB1⟩)
      have H1 := Lib.hid (And.intro hown hB1)
      clear hown hB1 hcg
      go_loopw [6, 27] (fun v i wr => CI2 w X Y v i wr) (fun _ i _ => 2 - (intOf i).toNat)
      case atStart => exact ⟨0, Nat.zero_le _, rfl, H1.out.1, H1.out.2⟩
      case round =>
        obtain ⟨k, hk, rfl, ho, hB⟩ := hrel
        obtain rfl | rfl | rfl : k = 0 ∨ k = 1 ∨ k = 2 := by omega
        · have e0 := (hB.cell (p := ⟨bs, 0, none⟩) hbs).trans c0
          have hn : ∀ j u, (cellsI X)[j]? = some u → wr.cell? ((⟨b1, 0, none⟩ : Addr).add j) = some u := fun j u hu => (hB.cell (by rw [Addr.add_lit]; exact h1)).trans (HA.out.1 j u hu)
          have HO : Hid (wr.ownsRow w.heap.size 3 1 u6 0 [] ∧ Below w.heap.size w wr ∧ ∀ j u, (cellsI X)[j]? = some u → wr.cell? ((⟨b1, 0, none⟩ : Addr).add j) = some u) := ⟨ho, hB, hn⟩
          clear ho hB hn
          go_wp2_with (at_builtin; refine wpList_append_own _ rfl (.tmp 31) (.tmp 32) 47 rfl w.heap.size 3 i0 _ 1 8 Tryz.underlying47 hi0 hz0 hz1 hz2 rfl (by decide) u6 0 [] rfl HO.out.1 ⟨b1, 0, none⟩ X.length ca (cellsI X) rfl (by simp [cellsI]) HO.out.2.2 (by intro u hu; simp [cellsI] at hu; obtain ⟨x, _, rfl⟩ := hu; rfl) (by unfold maxLen; omega) (by omega) HO.out.2.1.size ?_; intro v1 w1 hown1 hgrow1 _; refine Hid.out ?_)
          refine Lib.hid ?_
          have HRR : Hid (CI2 w X Y v1 (.int .i64 1) w1) := by
            refine ⟨1, by omega, rfl, ?_, HO.out.2.1.grown hgrow1 HO.out.2.1.size (fun k hk => (HO.out.1.lt k hk).1)⟩
            have : partI X Y 1 = X := rfl
            rw [this]
            simpa using hown1
          clear hown1
          go_wp2
          refine ⟨?_, ?_⟩
          · first | exact HRR.out | ((repeat apply Exists.intro); refine ⟨?_, rfl⟩; exact HRR.out)
          · simp [intOf]
        · have e0 := (hB.cell (p := ⟨bs, 1, none⟩) hbs).trans c1
          have hn : ∀ j u, (cellsI Y)[j]? = some u → wr.cell? ((⟨b2, 0, none⟩ : Addr).add j) = some u := fun j u hu => (hB.cell (by rw [Addr.add_lit]; exact h2)).trans (HA.out.2 j u hu)
          have HO : Hid (wr.ownsRow w.heap.size 3 1 u6 X.length (cellsI X) ∧ Below w.heap.size w wr ∧ ∀ j u, (cellsI Y)[j]? = some u → wr.cell? ((⟨b2, 0, none⟩ : Addr).add j) = some u) := ⟨ho, hB, hn⟩
          clear ho hB hn
          go_wp2_with (at_builtin; refine wpList_append_own _ rfl (.tmp 31) (.tmp 32) 47 rfl w.heap.size 3 i0 _ 1 8 Tryz.underlying47 hi0 hz0 hz1 hz2 rfl (by decide) u6 X.length (cellsI X) rfl HO.out.1 ⟨b2, 0, none⟩ Y.length cb (cellsI Y) rfl (by simp [cellsI]) HO.out.2.2 (by intro u hu; simp [cellsI] at hu; obtain ⟨x, _, rfl⟩ := hu; rfl) (by unfold maxLen; omega) (by omega) HO.out.2.1.size ?_; intro v1 w1 hown1 hgrow1 _; refine Hid.out ?_)
          refine Lib.hid ?_
          have HRR : Hid (CI2 w X Y v1 (.int .i64 2) w1) := by
            refine ⟨2, by omega, rfl, ?_, HO.out.2.1.grown hgrow1 HO.out.2.1.size (fun k hk => (HO.out.1.lt k hk).1)⟩
            have : partI X Y 2 = X ++ Y := rfl
            rw [this, cellsI_app, List.length_append]
            exact hown1
          clear hown1
          go_wp2
          refine ⟨?_, ?_⟩
          · first | exact HRR.out | ((repeat apply Exists.intro); refine ⟨?_, rfl⟩; exact HRR.out)
          · simp [intOf]
        · have HO : Hid (wr.ownsRow w.heap.size 3 1 u6 (X ++ Y).length (cellsI (X ++ Y)) ∧ Below w.heap.size w wr) := ⟨ho, hB⟩
          clear ho hB
          go_wp2
          go_ret
          exact ⟨_, rfl, HO.out.1, HO.out.2⟩
end Go.Proofs.YtifcpjimhhpcpaaGreatDoor
