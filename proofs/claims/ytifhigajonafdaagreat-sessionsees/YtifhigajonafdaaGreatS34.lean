/-
  The walk of index.shapesOf.
-/
import Derived.Test.YtifhigajonafdaaGreatS33
import Derived.Test.YtifhigajonafdaaGreatS32
import Derived.Lib.SliceRun
import Derived.Test.YtifhigajonafdaaGreatS03
import Derived.Laws.AppendOwnNone
import Derived.Lib.Hide
namespace Go.Proofs.YtifhigajonafdaaGreat
open Go.RowKit
open Go.Maps (Keyed)
set_option linter.unusedVariables false
set_option linter.unusedSimpArgs false

structure Hp where
  kn : List Nm
  ks : List Nm
def hpP (L : List Kd) (a : Nm) : Hp := ⟨nms (kin L a), keysF (fields L a)⟩
def hpO (L M : List Kd) : ByteArray → Option Hp := M.foldl (fun F k => upd F (bs k.nm) (hpP L k.nm)) (fun _ => none)
theorem hpO_take {L M : List Kd} {k : Nat} {x : Kd} (h : M[k]? = some x) : hpO L (M.take (k + 1)) = upd (hpO L (M.take k)) (bs x.nm) (hpP L x.nm) := foldl_take _ _ h
def OwnHp (w : World) (base : Nat) (v : Value) (h : Hp) : Prop := ∃ vk vs, v = .agg #[vk, vs] ∧ w.ownsRow base 9 1 vk h.kn.length (cellsS h.kn) ∧ w.ownsRow base 9 1 vs h.ks.length (cellsS h.ks)
theorem OwnHp.kt {w w' : World} {base : Nat} {v : Value} {h : Hp} (hh : OwnHp w base v h) (hk : Kt 9 w w') : OwnHp w' base v h := by
  obtain ⟨a, b, rfl, h1, h2⟩ := hh
  exact ⟨a, b, rfl, own_kt h1 hk, own_kt h2 hk⟩
def HpR (w : World) (base : Nat) (o : Option Value) (h : Option Hp) : Prop := (o = none ∧ h = none) ∨ ∃ v s, o = some v ∧ h = some s ∧ OwnHp w base v s
def MapHp (w : World) (base b : Nat) (H : ByteArray → Option Hp) : Prop := ∃ F, OwnM w Tryz.prog 9 encS b F ∧ ∀ x, HpR w base (F x) (H x)
theorem MapHp.kt {w w' : World} {base b : Nat} {H : ByteArray → Option Hp} (h : MapHp w base b H) (hb : w'.heap[b]? = w.heap[b]?) (hk : Kt 9 w w') : MapHp w' base b H := by
  obtain ⟨F, h1, h2⟩ := h
  refine ⟨F, h1.of_block hb, fun x => ?_⟩
  rcases h2 x with h | ⟨v, s, e1, e2, hh⟩
  · exact .inl h
  · exact .inr ⟨v, s, e1, e2, hh.kt hk⟩
theorem MapHp.on {w w' : World} {base b : Nat} {H : ByteArray → Option Hp} (h : MapHp w base b H) (hB : Below w.heap.size w w') : MapHp w' base b H := by
  obtain ⟨F, h1, h2⟩ := h
  exact MapHp.kt ⟨F, h1, h2⟩ (hB.block b h1.lt) (.of_below hB)
theorem Kt.of_map {t : TypeId} {κ : Type} {k : TypeId} {enc : κ → Value} {b : Nat} {F : κ → Option Value} {w w' : World} (h : OwnM w Tryz.prog k enc b F) (hg : w.grownBy w' (some b)) : Kt t w w' := by
  obtain ⟨es, c, hm, _⟩ := h
  exact ⟨hg.size, fun x cs hx => (hg.block x (Array.getElem?_eq_some_iff.1 hx).1 (fun e => by injection e with e; subst e; rw [hm] at hx; cases hx)).trans hx⟩
theorem mapHp_put {w : World} {base b : Nat} {H : ByteArray → Option Hp} (h : MapHp w base b H) {x : ByteArray} {l : Lit} (hk : keyOf Tryz.prog 9 (encS x) = some l) {v : Value} {s : Hp} (hv : OwnHp w base v s) :
    ∃ w', (Instr.mapUpdate 96 (.map (some b)) (encS x) v).run Tryz.prog w = .ok () w' ∧ MapHp w' base b (upd H x s) ∧ w.grownBy w' (some b) ∧ Kp w w' ∧ Kt 9 w w' := by
  obtain ⟨F, h1, h2⟩ := h
  obtain ⟨w', r1, r2, r3⟩ := h1.put keyedS encS_inj Tryz.underlying96 hk v
  have hK := but_map h1 r3
  have hT : Kt 9 w w' := Kt.of_map h1 r3
  refine ⟨w', r1, ⟨_, r2, fun y => ?_⟩, r3, hK, hT⟩
  unfold upd
  split
  · exact .inr ⟨v, s, rfl, rfl, hv.kt hT⟩
  · rcases h2 y with h | ⟨v', s', e1, e2, hh⟩
    · exact .inl h
    · exact .inr ⟨v', s', e1, e2, hh.kt hT⟩
set_option maxHeartbeats 8000000 in
set_option maxRecDepth 100000 in
theorem shapesOf_any {vk vb : Value} {L : List Kd} {w : World} (hK : IsK w vk L) (hP : Parts w L) (hz : SzK L) (he : (ksErr L).2 = 0) (hvb : ∃ a n c, vb = .slice a n c) :
    Calls Tryz.prog 29 #[.agg #[vk, vb]] w fun e w' => ∃ b, e = .returned (.map (some b)) ∧ w.heap.size ≤ b ∧ MapHp w' w.heap.size b (hpO L L) ∧ Below w.heap.size w w' := by
  have hl12 := ksErr_len he
  obtain ⟨ab, nb, cb, rfl⟩ := hvb
  obtain ⟨ak, ck, rfl, _⟩ := hK.sln
  obtain ⟨W2, hW2⟩ : ∃ W2, W2 = (w.alloc (.cells #[.slice ak L.length ck, .slice ab nb cb] 25)).alloc (.map #[] 0) := ⟨_, rfl⟩
  have hB2 : Below w.heap.size w W2 := by rw [hW2]; exact b_alloc (b_alloc (Below.refl _ _) _) _
  have n0 : W2.heap[w.heap.size]? = some (.cells #[.slice ak L.length ck, .slice ab nb cb] 25 (0, 0)) := by rw [hW2]; exact (heap_alloc_old _ _ (by simp)).trans (heap_alloc_new w _)
  have hs2 : W2.heap.size = w.heap.size + 2 := by rw [hW2]; simp
  have hM0 : MapHp W2 w.heap.size (w.heap.size + 1) (hpO L (L.take 0)) := by
    refine ⟨fun _ => none, ?_, fun x => .inl ⟨rfl, rfl⟩⟩
    have := OwnM.made (P := Tryz.prog) (k := 9) (enc := encS) (w.alloc (.cells #[.slice ak L.length ck, .slice ab nb cb] 25))
    rw [World.size_alloc] at this
    rw [hW2]; exact this
  have HH : Hid (IsK w (.slice ak L.length ck) L ∧ Parts w L ∧ (ksErr L).2 = 0 ∧ Below w.heap.size w W2 ∧ W2.heap[w.heap.size]? = some (.cells #[.slice ak L.length ck, .slice ab nb cb] 25 (0, 0)) ∧ W2.heap.size = w.heap.size + 2 ∧ MapHp W2 w.heap.size (w.heap.size + 1) (hpO L (L.take 0))) := ⟨hK, hP, he, hB2, n0, hs2, hM0⟩
  have x0 : W2.cell? ⟨w.heap.size, 0, none⟩ = some (.slice ak L.length ck) := cell_at n0 rfl
  have hmm := @run_makeMap Tryz.prog
  clear hK hP he hB2 n0 hs2 hM0
  go_enter Tryz.func29, Tryz.ntmps29
  go_upto_region 2 with fail
  rw [← hW2]
  clear hW2
  go_wp2
  go_loopw [14] (fun i wr => ∃ k : Nat, k ≤ L.length ∧ i = .int .i64 k ∧ MapHp wr w.heap.size (w.heap.size + 1) (hpO L (L.take k)) ∧ W2.grownBy wr (some (w.heap.size + 1))) (fun i _ => L.length - (intOf i).toNat)
  case atStart => exact ⟨0, Nat.zero_le _, rfl, HH.out.2.2.2.2.2.2, but_of_below (Below.refl _ _) _⟩
  case round =>
    obtain ⟨k, hk, rfl, hM, hg⟩ := hrel
    have hbw : Below w.heap.size w wr := HH.out.2.2.2.1.trans (below_but hg (by have := HH.out.2.2.2.2.2.1; omega) (by omega))
    have y0 := (hg.block w.heap.size (by have := HH.out.2.2.2.2.2.1; omega) (by simp)).trans HH.out.2.2.2.2.1
    have hsz : w.heap.size + 2 ≤ wr.heap.size := by have := hg.size; have := HH.out.2.2.2.2.2.1; omega
    by_cases hlt : k < L.length
    · obtain ⟨x, hx⟩ : ∃ x, L[k]? = some x := ⟨L[k], by simp [hlt]⟩
      obtain ⟨b, off, c, hv, hb, e0, e1, e2⟩ := HH.out.1.at hx
      injection hv with hv1 hv2 hv3
      subst hv1 hv3
      clear hv2
      have d0 := (hbw.cell (p := ⟨b, off + k * 3, none⟩) hb).trans e0
      have d1 := (hbw.cell (p := ⟨b, off + k * 3 + 1, none⟩) hb).trans e1
      have d2 := (hbw.cell (p := ⟨b, off + k * 3 + 2, none⟩) hb).trans e2
      have hxm := List.mem_of_getElem? hx
      have hT := hpO_take (L := L) hx
      obtain ⟨p1, p2⟩ := HH.out.2.1 x hxm
      have hnm := in_nmErr HH.out.2.2.1 hxm
      obtain ⟨kl, hkl⟩ := keyS (s := bs x.nm) (by rw [bs_size]; exact (hz x hxm).1)
      obtain ⟨ao, co, ho, _⟩ := p1.sln
      obtain ⟨af, cf, hf, _⟩ := p2.sln
      obtain ⟨nm, of, fs, vo, vf⟩ := x
      simp only at d0 d1 d2 hT hnm hkl ho hf
      subst ho
      subst hf
      obtain ⟨W3, hW3⟩ : ∃ W3, W3 = wr.alloc (.cells #[.string (bs nm), .slice ao of.length co, .slice af fs.length cf] 34) := ⟨_, rfl⟩
      have hB3 : Below wr.heap.size wr W3 := by rw [hW3]; exact b_alloc (Below.refl _ _) _
      have n3 : W3.heap[wr.heap.size]? = some (.cells #[.string (bs nm), .slice ao of.length co, .slice af fs.length cf] 34 (0, 0)) := by rw [hW3]; exact heap_alloc_new wr _
      have HC : Hid (∀ W, Below W3.heap.size W3 W → Below wr.heap.size wr W ∧ W.cell? ⟨w.heap.size, 0, none⟩ = some (.slice (some ⟨b, off, none⟩) L.length ck) ∧ W.cell? ⟨wr.heap.size, 0, none⟩ = some (.string (bs nm))) := fun W h => by
        have h' := on1K hB3 h (Nat.le_refl _)
        exact ⟨h', cell_at ((h'.block _ (by omega)).trans y0) rfl, cell_at ((h.block _ (Array.getElem?_eq_some_iff.1 n3).1).trans n3) rfl⟩
      have ck1 := fun W (h : Below W3.heap.size W3 W) => kin_any (HH.out.1.on (on1K hbw (on1K hB3 h (Nat.le_refl _)) (Nat.le_refl _))) (HH.out.2.1.on (on1K hbw (on1K hB3 h (Nat.le_refl _)) (Nat.le_refl _))) hz nm
      have cf1 := fun W (h : Below W3.heap.size W3 W) => fields_any (HH.out.1.on (on1K hbw (on1K hB3 h (Nat.le_refl _)) (Nat.le_refl _))) (HH.out.2.1.on (on1K hbw (on1K hB3 h (Nat.le_refl _)) (Nat.le_refl _))) hz nm
      have HCk := Lib.hid ck1
      have HCf := Lib.hid cf1
      have HN : Hid (nmErr L nm = 0) := hnm
      have HF : Hid (∀ W6 v s, Below W3.heap.size W3 W6 → W6.ownsRow w.heap.size 9 1 v (nms (kin L nm)).length (cellsS (nms (kin L nm))) → W6.ownsRow w.heap.size 9 1 s (keysF (fields L nm)).length (cellsS (keysF (fields L nm))) → ∃ w7, (Instr.mapUpdate 96 (.map (some (w.heap.size + 1))) (.string (bs nm)) (.agg #[v, s])).run Tryz.prog W6 = .ok () w7 ∧ (MapHp w7 w.heap.size (w.heap.size + 1) (hpO L (L.take (k + 1))) ∧ W2.grownBy w7 (some (w.heap.size + 1))) ∧ Kp W6 w7) := fun W6 v s h6 o1 o2 => by
        have h' := on1K hB3 h6 (Nat.le_refl _)
        obtain ⟨w7, r1, r2, r3, r4, _⟩ := mapHp_put (hM.on h') hkl (v := .agg #[v, s]) (s := hpP L nm) ⟨v, s, rfl, o1, o2⟩
        exact ⟨w7, r1, ⟨by rw [hT]; exact r2, but_trans (but_below hg h') r3⟩, r4⟩
      have HW3 := Lib.hid hW3
      have hzw : Hid (w.heap.size ≤ wr.heap.size ∧ wr.heap.size ≤ W3.heap.size) := ⟨by omega, hB3.size⟩
      obtain ⟨_, u0, u1⟩ := HC.out W3 (Below.refl _ _)
      have hbn : ¬ b = wr.heap.size := by have := hbw.size; omega
      clear hB3 n3 ck1 cf1 e0 e1 e2 hx hT hkl hnm hxm p1 p2 hM hg hbw y0 hW3
      go_upto_region 5 with fail
      rw [← HW3.out]
      go_wp2_with (first | (go_at_call 44; refine (HCk.out W3 (Below.refl _ _)).mono ?_; rintro e W4 ⟨v4, rfl, hv4, _, hB4⟩; refine Hid.out ?_))
      refine Lib.hid ?_
      have ho4 := hv4 HN.out
      obtain ⟨a4, c4, rfl⟩ := own_slice ho4
      rw [HN.out, errV_0]
      obtain ⟨_, s0, s1⟩ := HC.out W4 hB4
      have H4 : Hid (W4.ownsRow w.heap.size 9 1 (.slice a4 (nms (kin L nm)).length c4) (nms (kin L nm)).length (cellsS (nms (kin L nm))) ∧ Below W3.heap.size W3 W4) := ⟨own_base ho4 (Nat.le_trans hzw.out.1 hzw.out.2), hB4⟩
      clear hv4 ho4 hB4 u0 u1
      go_wp2_with (first | (go_at_call 45; refine (HCf.out W4 H4.out.2).mono ?_; rintro e W5 ⟨v5, rfl, hv5, _, hB5⟩; refine Hid.out ?_))
      refine Lib.hid ?_
      obtain ⟨ho5, _, hf8⟩ := hv5 HN.out
      have hI5 := own_isF ho5
      obtain ⟨a5, c5, rfl⟩ := own_slice ho5
      rw [HN.out, errV_0]
      have hB35 := on1K H4.out.2 hB5 (Nat.le_refl _)
      obtain ⟨_, t0, t1⟩ := HC.out W5 hB35
      have H5 : Hid (W5.ownsRow w.heap.size 9 1 (.slice a4 (nms (kin L nm)).length c4) (nms (kin L nm)).length (cellsS (nms (kin L nm))) ∧ Below W3.heap.size W3 W5) := ⟨own_kt H4.out.1 (.of_below hB5), hB35⟩
      have cK := keyNames_any (w := W5.drew) (v := .slice a5 (fields L nm).length c5) (l := fields L nm) hI5 (by omega)
      have HKc : Hid (∀ W6, Kp W5.drew W6 → W6.cell? ⟨wr.heap.size, 0, none⟩ = some (.string (bs nm))) := fun W6 hK => hK.2 _ _ t1
      have HKn : Hid (∀ W6 u, W6.ownsRow W5.drew.heap.size 9 1 u (keysF (fields L nm)).length (cellsS (keysF (fields L nm))) → Below W5.drew.heap.size W5.drew W6 → ∃ w7, (Instr.mapUpdate 96 (.map (some (w.heap.size + 1))) (.string (bs nm)) (.agg #[.slice a4 (nms (kin L nm)).length c4, u])).run Tryz.prog W6 = .ok () w7 ∧ (MapHp w7 w.heap.size (w.heap.size + 1) (hpO L (L.take (k + 1))) ∧ W2.grownBy w7 (some (w.heap.size + 1))) ∧ Kp W6 w7) := fun W6 u h6 hB6 => HF.out W6 _ u (on1K H5.out.2 (b_undrew hB6) (Nat.le_refl _)) (own_kt H5.out.1 (.of_below (b_undrew hB6))) (own_base h6 (by have := H5.out.2.size; have := hzw.out; show w.heap.size ≤ W5.heap.size; omega))
      clear hv5 ho5 hI5 hB5 hB35 hf8 s0 s1
      obtain ⟨nk, hnk⟩ : ∃ nk, nk = (nms (kin L nm)).length := ⟨_, rfl⟩
      rw [← hnk] at HKn ⊢
      clear hnk
      go_wp2
      first | (go_region_held_law (fun w' => w'.cell? ⟨wr.heap.size, 0, none⟩ = some (.string (bs nm))) (go_keep) (first | (go_simp; go_at_call 46; refine cK.mono ?_; rintro e W6 ⟨v6, rfl, ho6, hB6⟩; obtain ⟨w7, hrun, hN7, hK7⟩ := HKn.out W6 v6 ho6 hB6; obtain ⟨a6, c6, rfl⟩ := own_slice ho6; have q0 := HKc.out W6 (Kp.of_below hB6); have q1 := HKc.out w7 ((Kp.of_below hB6).trans hK7); have HN7 := Lib.hid hN7; clear hN7 ho6 hB6 hK7))) | fail
      all_goals
        go_wp2
        refine ⟨?_, ?_⟩
        · first | exact ⟨k + 1, by omega, by go_num, HN7.out⟩ | ((repeat apply Exists.intro); refine ⟨?_, rfl⟩; exact ⟨k + 1, by omega, by go_num, HN7.out⟩)
        · simp [intOf]
          try omega
    · obtain rfl : k = L.length := by omega
      rw [List.take_length] at hM
      clear y0
      go_wp2
      go_ret
      exact ⟨_, rfl, by omega, hM, hbw⟩
end Go.Proofs.YtifhigajonafdaaGreat

/-
  The walk of index.conform.
-/
namespace Go.Proofs.YtifhigajonafdaaGreat
open Go.RowKit
set_option linter.unusedVariables false
set_option linter.unusedSimpArgs false

def cfE (L : List Kd) (B : List Bd) (N : List Nd) (T : List Te) : Int := if inE L B N T = 0 then (if confB L B N T then 0 else 9) else inE L B N T
set_option maxHeartbeats 8000000 in
set_option maxRecDepth 100000 in
theorem conform_any {vs vg : Value} {L : List Kd} {B : List Bd} {N : List Nd} {T : List Te} {w : World} (hs : IsSc w vs L B) (hg : IsG w vg N T) : Calls Tryz.prog 28 #[vs, vg] w fun e w' => e = .returned (errV (cfE L B N T)) ∧ Below w.heap.size w w' := by
  obtain ⟨vk, vb, rfl, hK, hP, hz, hb, hzb⟩ := hs
  obtain ⟨vn, vt, rfl, hN, hT, zN, zT, lN, lT⟩ := hg
  obtain ⟨ak, ck, rfl, hl1⟩ := hK.sln
  obtain ⟨ab, cb, rfl, hl2⟩ := hb.sln
  have HN : Hid (IsN w vn N ∧ IsT w vt T) := ⟨hN, hT⟩
  obtain ⟨an, cn, rfl, _⟩ := hN
  obtain ⟨at', ct, rfl, _⟩ := hT
  have HB0 : Hid (Below w.heap.size w (box2 w #[.slice ak L.length ck, .slice ab B.length cb] 25 #[.slice an N.length cn, .slice at' T.length ct] 29)) := box2_below _ _ _ _ _
  have c := conforms_any (L := L) (B := B) (N := N) (T := T) (w := (box2 w #[.slice ak L.length ck, .slice ab B.length cb] 25 #[.slice an N.length cn, .slice at' T.length ct] 29)) ⟨_, _, rfl, hK.on HB0.out, hP.on HB0.out, hz, hb.on HB0.out, hzb⟩ ⟨_, _, rfl, HN.out.1.on HB0.out, HN.out.2.on HB0.out, zN, zT, lN, lT⟩
  have hE : cfE L B N T = if inE L B N T = 0 then (if confB L B N T then 0 else 9) else inE L B N T := rfl
  generalize confB L B N T = cb1 at c hE
  generalize inE L B N T = ie at c hE
  generalize cfE L B N T = ce at hE
  clear hK hP hz hb hzb zN zT lN lT hl1 hl2
  by_cases he : ie = 0
  · subst he
    rw [if_pos rfl] at hE
    rw [errV_0] at c
    cases cb1
    · have h9 : errV ce = .iface 74 (.int .i64 9) := by rw [hE]; exact errV_ne (by decide)
      rw [h9]
      clear hE h9
      go_enter Tryz.func28, Tryz.ntmps28
      go_wp2_with (go_at_call 13; refine c.mono ?_; rintro e W1 ⟨rfl, hB1⟩)
      go_ret
      exact ⟨rfl, on1KC HB0.out hB1 (Nat.le_refl _)⟩
    · have h9 : errV ce = .nilIface := by rw [hE]; exact errV_0
      rw [h9]
      clear hE h9
      go_enter Tryz.func28, Tryz.ntmps28
      go_wp2_with (go_at_call 13; refine c.mono ?_; rintro e W1 ⟨rfl, hB1⟩)
      go_ret
      exact ⟨rfl, on1KC HB0.out hB1 (Nat.le_refl _)⟩
  · rw [if_neg he] at hE
    subst hE
    rw [errV_ne he] at c ⊢
    clear he
    go_enter Tryz.func28, Tryz.ntmps28
    go_wp2_with (go_at_call 13; refine c.mono ?_; rintro e W1 ⟨rfl, hB1⟩)
    go_ret
    exact ⟨rfl, on1KC HB0.out hB1 (Nat.le_refl _)⟩
end Go.Proofs.YtifhigajonafdaaGreat

/-
  The walk of slices.Clone of ints.
-/
namespace Go.Proofs.YtifhigajonafdaaGreat
open Go.RowKit
set_option linter.unusedVariables false
set_option linter.unusedSimpArgs false

def cellsI (L : List Int) : List Value := L.map (fun x => .int .i64 x)
theorem infoInt : (Tryz.prog.info? 3).map (fun i => (i.zero, i.size, i.bytes)) = some (some (.int .i64 0), 1, 8) := by kernel_rfl
end Go.Proofs.YtifhigajonafdaaGreat

/-
  The walks of find and of what it calls, and of kinref2.In.
-/
namespace Go.Proofs.YtifhigajonafdaaGreat
open Go.RowKit
set_option linter.unusedVariables false
set_option linter.unusedSimpArgs false

end Go.Proofs.YtifhigajonafdaaGreat

/-
  The walks of Out and In.
-/
namespace Go.Proofs.YtifhigajonafdaaGreat
open Go.RowKit
set_option linter.unusedVariables false
set_option linter.unusedSimpArgs false

def Te.hit (bd : ByteArray) (t : Te) : Bool := t.bd.toList == bd.toList
def outs (T : List Te) (bd : ByteArray) (a : Int) : List Int := (T.filter fun t => t.hit bd && t.fr == a).map (·.tt)
theorem cellsI_app (L M : List Int) : cellsI (L ++ M) = cellsI L ++ cellsI M := by simp [cellsI]
theorem infoI : (Tryz.prog.info? 3).map (fun i => (i.zero, i.size, i.bytes)) = some (some (.int .i64 0), 1, 8) := by kernel_rfl
theorem takeT {T : List Te} {k : Nat} {t : Te} (h : T[k]? = some t) : T.take (k + 1) = T.take k ++ [t] := by
  obtain ⟨hk, rfl⟩ := List.getElem?_eq_some_iff.1 h
  rw [List.take_succ_eq_append_getElem hk]
def OAt (w : World) (n : Nat) (L : Nat → List Int) (v i : Value) (wr : World) : Prop :=
  ∃ k : Nat, k ≤ n ∧ i = .int .i64 k ∧ wr.ownsRow w.heap.size 3 1 v (L k).length (cellsI (L k)) ∧ Below w.heap.size w wr
end Go.Proofs.YtifhigajonafdaaGreat

/-
  Lists of integers as they lie there; Out, and kinref2.In.
-/
namespace Go.Proofs.YtifhigajonafdaaGreat
open Go.RowKit
set_option linter.unusedVariables false
set_option linter.unusedSimpArgs false

def IsI (w : World) (v : Value) (L : List Int) : Prop :=
  (v = .slice none 0 0 ∧ L = []) ∨ ∃ b cap, v = .slice (some ⟨b, 0, none⟩) L.length cap ∧ L.length ≤ cap ∧ b < w.heap.size ∧ ∀ k x, L[k]? = some x → w.cell? ⟨b, k, none⟩ = some (.int .i64 x)
theorem IsI.on {w w' : World} {v : Value} {L : List Int} (h : IsI w v L) (hB : Below w.heap.size w w') : IsI w' v L := by
  rcases h with h | ⟨b, cap, rfl, hc, hb, hl⟩
  · exact .inl h
  · exact .inr ⟨b, cap, rfl, hc, Nat.lt_of_lt_of_le hb hB.size, fun k x hx => (hB.cell hb).trans (hl k x hx)⟩
theorem own_isI {w : World} {base : Nat} {v : Value} {M : List Int} (h : w.ownsRow base 3 1 v M.length (cellsI M)) : IsI w v M := by
  have hc : ∀ g, v.ownBlock = some g → ∀ j u, (cellsI M)[j]? = some u → w.cell? ((⟨g, 0, none⟩ : Addr).add j) = some u := fun g hg => h.cells hg
  rcases h.2 with ⟨rfl, h0⟩ | ⟨g, cap, cur, rfl, hb, hg, hle, hcm, hcs, ht⟩
  · exact .inl ⟨rfl, List.eq_nil_of_length_eq_zero h0⟩
  · refine .inr ⟨g, cap, rfl, hle, (Array.getElem?_eq_some_iff.1 hg).1, fun k p hp => ?_⟩
    have d0 := hc g rfl k (.int .i64 p) (by simp [cellsI, hp])
    rw [Addr.add_lit, Nat.zero_add] at d0
    exact d0
theorem IsI.sl {w : World} {v : Value} {L : List Int} (h : IsI w v L) : ∃ ao c, v = .slice ao L.length c := by
  rcases h with ⟨rfl, rfl⟩ | ⟨b, cap, rfl, _⟩
  · exact ⟨_, _, rfl⟩
  · exact ⟨_, _, rfl⟩

end Go.Proofs.YtifhigajonafdaaGreat

/-
  The walk of guard.otherEnds.
-/
namespace Go.Proofs.YtifhigajonafdaaGreat
open Go.RowKit
set_option linter.unusedVariables false
set_option linter.unusedSimpArgs false

theorem ends_take {T : List Te} {k : Nat} {t : Te} (h : T[k]? = some t) (id : Int) : endsOf (T.take (k + 1)) id = endsOf (T.take k) id ++ (oth id t).toList := by
  rw [takeT h]; unfold endsOf; rw [List.filterMap_append]
  cases e : oth id t <;> simp [e]
theorem ends_le (T : List Te) (id : Int) : (endsOf T id).length ≤ T.length := List.length_filterMap_le _ _
set_option maxHeartbeats 2000000 in
set_option maxRecDepth 100000 in
theorem oends_any {vt : Value} {T : List Te} {w : World} (hT : IsT w vt T) (hT0 : T.length ≤ 120) (id : Int) :
    Calls Tryz.prog 52 #[vt, .int .i64 id] w fun e w' => ∃ v, e = .returned v ∧ w'.ownsRow w.heap.size 3 1 v (endsOf T id).length (cellsI (endsOf T id)) ∧ Below w.heap.size w w' := by
  obtain ⟨i0, hi0, hz0, hz1, hz2⟩ := info_parts infoI
  obtain ⟨am, cm, rfl, hcm, hm⟩ := hT
  have HM : Hid (T = [] ∨ ∃ b off, am = some ⟨b, off, none⟩ ∧ b < w.heap.size ∧ LiesT w b off T) := hm
  clear hm
  go_enter Tryz.func52, Tryz.ntmps52
  go_wp2
  go_loopw [5, 10] (fun v i wr => OAt w T.length (fun k => endsOf (T.take k) id) v i wr) (fun _ i _ => T.length - (intOf i).toNat)
  case atStart => exact ⟨0, Nat.zero_le _, rfl, World.ownsRow_nil _ _ _ _, Below.refl _ _⟩
  case round =>
    obtain ⟨k, hk, rfl, ho, hB⟩ := hrel
    by_cases hlt : k < T.length
    · obtain ⟨t, ht⟩ : ∃ t, T[k]? = some t := ⟨T[k], by simp [hlt]⟩
      rcases HM.out with rfl | ⟨b, off, rfl, hb, hL⟩
      · exact absurd hlt (by simp)
      obtain ⟨c0, c1, c2⟩ := hL k t ht
      have d0 := (hB.cell (p := ⟨b, off + k * 3, none⟩) hb).trans c0
      have d1 := (hB.cell (p := ⟨b, off + k * 3 + 1, none⟩) hb).trans c1
      have d2 := (hB.cell (p := ⟨b, off + k * 3 + 2, none⟩) hb).trans c2
      have hbr : b < wr.heap.size := Nat.lt_of_lt_of_le hb hB.size
      have hbn : ¬ b = wr.heap.size := by omega
      have HE0 := ends_take ht id
      clear c0 c1 c2 hL ht
      obtain ⟨tb, tf, tt⟩ := t
      simp only at d0 d1 d2
      have HR : Hid (Below w.heap.size w (wr.alloc (.cells #[.string tb, .int .i64 tf, .int .i64 tt] 54)) ∧ (wr.alloc (.cells #[.string tb, .int .i64 tf, .int .i64 tt] 54)).ownsRow w.heap.size 3 1 u5 (endsOf (T.take k) id).length (cellsI (endsOf (T.take k) id))) := ⟨b_alloc hB _, ho.alloc _⟩
      have hle : (endsOf (T.take k) id).length ≤ k := Nat.le_trans (ends_le _ _) (List.length_take_le _ _)
      have HL : Hid ((endsOf (T.take k) id).length + 1 ≤ maxLen ∧ ((endsOf (T.take k) id).length + 1) * 8 ≤ 140737488355328) := by
        unfold maxLen; exact ⟨by omega, by omega⟩
      by_cases h1 : tf = id
      · have HE : Hid (endsOf (T.take (k + 1)) id = endsOf (T.take k) id ++ [tt]) := by show _ = _; rw [HE0]; simp [oth, h1]
        have h3 : (tf == id) = true := by simpa using h1
        have HO : Hid (((wr.alloc (.cells #[.string tb, .int .i64 tf, .int .i64 tt] 54)).alloc (.cells #[.int .i64 tt] 3)).ownsRow w.heap.size 3 1 u5 (endsOf (T.take k) id).length (cellsI (endsOf (T.take k) id)) ∧ Below w.heap.size w ((wr.alloc (.cells #[.string tb, .int .i64 tf, .int .i64 tt] 54)).alloc (.cells #[.int .i64 tt] 3))) := ⟨HR.out.2.alloc _, b_alloc HR.out.1 _⟩
        clear hle ho hB HR h1 HE0
        go_wp2_with (at_builtin; refine wpList_append_own _ rfl (.tmp 19) (.tmp 22) 42 rfl w.heap.size 3 i0 _ 1 8 Tryz.underlying42 hi0 hz0 hz1 hz2 rfl (by decide) u5 (endsOf (T.take k) id).length (cellsI (endsOf (T.take k) id)) rfl HO.out.1 ⟨wr.heap.size + 1, 0, none⟩ 1 1 [.int .i64 tt] (by simp [Act.eval]) rfl (by have := new_at (wr.alloc (.cells #[.string tb, .int .i64 tf, .int .i64 tt] 54)) [.int .i64 tt] 3; simpa using this) (by simp [Value.oneCell']) HL.out.1 HL.out.2 HO.out.2.size ?_; intro v1 w1 hown1 hgrow1 _; refine Hid.out ?_)
        refine Lib.hid ?_
        have HRR : Hid (OAt w T.length (fun k => endsOf (T.take k) id) v1 (.int .i64 ((k + 1 : Nat) : Int)) w1) := by
          refine ⟨k + 1, by omega, rfl, ?_, HO.out.2.grown hgrow1 HO.out.2.size (fun k hk => (HO.out.1.lt k hk).1)⟩
          simp only
          rw [HE.out, List.length_append, cellsI_app]
          exact hown1
        clear hown1
        go_wp2
        refine ⟨?_, ?_⟩
        · first | exact HRR.out | ((repeat apply Exists.intro); refine ⟨?_, rfl⟩; exact HRR.out)
        · simp [intOf]
          try omega
      · have h3 : (tf == id) = false := by simpa using h1
        by_cases h2 : tt = id
        · have HE : Hid (endsOf (T.take (k + 1)) id = endsOf (T.take k) id ++ [tf]) := by show _ = _; rw [HE0]; simp [oth, h1, h2]
          have h4 : (tt == id) = true := by simpa using h2
          have HO : Hid (((wr.alloc (.cells #[.string tb, .int .i64 tf, .int .i64 tt] 54)).alloc (.cells #[.int .i64 tf] 3)).ownsRow w.heap.size 3 1 u5 (endsOf (T.take k) id).length (cellsI (endsOf (T.take k) id)) ∧ Below w.heap.size w ((wr.alloc (.cells #[.string tb, .int .i64 tf, .int .i64 tt] 54)).alloc (.cells #[.int .i64 tf] 3))) := ⟨HR.out.2.alloc _, b_alloc HR.out.1 _⟩
          clear hle ho hB HR h1 h2 HE0
          go_wp2_with (at_builtin; refine wpList_append_own _ rfl (.tmp 29) (.tmp 32) 42 rfl w.heap.size 3 i0 _ 1 8 Tryz.underlying42 hi0 hz0 hz1 hz2 rfl (by decide) u5 (endsOf (T.take k) id).length (cellsI (endsOf (T.take k) id)) rfl HO.out.1 ⟨wr.heap.size + 1, 0, none⟩ 1 1 [.int .i64 tf] (by simp [Act.eval]) rfl (by have := new_at (wr.alloc (.cells #[.string tb, .int .i64 tf, .int .i64 tt] 54)) [.int .i64 tf] 3; simpa using this) (by simp [Value.oneCell']) HL.out.1 HL.out.2 HO.out.2.size ?_; intro v1 w1 hown1 hgrow1 _; refine Hid.out ?_)
          refine Lib.hid ?_
          have HRR : Hid (OAt w T.length (fun k => endsOf (T.take k) id) v1 (.int .i64 ((k + 1 : Nat) : Int)) w1) := by
            refine ⟨k + 1, by omega, rfl, ?_, HO.out.2.grown hgrow1 HO.out.2.size (fun k hk => (HO.out.1.lt k hk).1)⟩
            simp only
            rw [HE.out, List.length_append, cellsI_app]
            exact hown1
          clear hown1
          go_wp2
          refine ⟨?_, ?_⟩
          · first | exact HRR.out | ((repeat apply Exists.intro); refine ⟨?_, rfl⟩; exact HRR.out)
          · simp [intOf]
            try omega
        · have HE : Hid (endsOf (T.take (k + 1)) id = endsOf (T.take k) id) := by show _ = _; rw [HE0]; simp [oth, h1, h2]
          have h4 : (tt == id) = false := by simpa using h2
          have HRR : Hid (OAt w T.length (fun k => endsOf (T.take k) id) u5 (.int .i64 ((k + 1 : Nat) : Int)) (wr.alloc (.cells #[.string tb, .int .i64 tf, .int .i64 tt] 54))) := by
            refine ⟨k + 1, by omega, rfl, ?_, HR.out.1⟩
            simp only
            rw [HE.out]
            exact HR.out.2
          clear ho hB HR HE h1 h2 HE0 hle HL
          go_wp2
          refine ⟨?_, ?_⟩
          · first | exact HRR.out | ((repeat apply Exists.intro); refine ⟨?_, rfl⟩; exact HRR.out)
          · simp [intOf]
            try omega
    · have hke : T.take k = T := List.take_of_length_le (by omega)
      simp only at ho
      rw [hke] at ho
      have HO : Hid (wr.ownsRow w.heap.size 3 1 u5 (endsOf T id).length (cellsI (endsOf T id)) ∧ Below w.heap.size w wr) := ⟨ho, hB⟩
      clear ho hB hke
      go_wp2
      go_ret
      exact ⟨_, rfl, HO.out.1, HO.out.2⟩
end Go.Proofs.YtifhigajonafdaaGreat

/-
  The walk of guard.touchedBy.
-/
namespace Go.Proofs.YtifhigajonafdaaGreat
open Go.RowKit
set_option linter.unusedVariables false
set_option linter.unusedSimpArgs false

theorem isI_new (W : World) {l : List Int} : IsI (W.alloc (.cells (cellsI l).toArray 3)) (.slice (some ⟨W.heap.size, 0, none⟩) l.length l.length) l := by
  refine .inr ⟨_, _, rfl, Nat.le_refl _, by simp, fun k x hx => ?_⟩
  have := new_at W (cellsI l) 3 k (.int .i64 x) (by simp [cellsI, hx])
  rw [Addr.add_lit, Nat.zero_add] at this
  exact this
abbrev opObj (o : Opx) : Obj := .cells #[.int .i64 o.wh, .int .i64 o.nd.id, .string o.nd.kd, o.nd.rv, .string o.pr.nm, .int .i64 o.pr.t, .int .i64 o.pr.n, .string o.pr.s, .string o.te.bd, .int .i64 o.te.fr, .int .i64 o.te.tt] 56

set_option maxHeartbeats 2000000 in
set_option maxRecDepth 100000 in
theorem tb_two {vt : Value} {o : Opx} {w : World} {a l c} (hR : o.nd.rv = .slice a l c) (ho : o.wh = 5 ∨ o.wh = 6) :
    Calls Tryz.prog 36 #[vt, o.one] w fun e w' => ∃ v, e = .returned v ∧ IsI w' v [o.te.fr, o.te.tt] ∧ Below w.heap.size w w' := by
  obtain ⟨wh, ⟨id, kd, rv, rc⟩, ⟨nm, pt, pn, ps⟩, ⟨bd, fr, tt⟩⟩ := o
  simp only at ho hR ⊢
  subst hR
  have HB : Hid (Below w.heap.size w ((w.alloc (opObj ⟨wh, ⟨id, kd, .slice a l c, rc⟩, ⟨nm, pt, pn, ps⟩, ⟨bd, fr, tt⟩⟩)).alloc (.cells #[.int .i64 fr, .int .i64 tt] 3))) := b_alloc (b_alloc (Below.refl _ _) _) _
  have HI : Hid (IsI ((w.alloc (opObj ⟨wh, ⟨id, kd, .slice a l c, rc⟩, ⟨nm, pt, pn, ps⟩, ⟨bd, fr, tt⟩⟩)).alloc (.cells #[.int .i64 fr, .int .i64 tt] 3)) (.slice (some ⟨w.heap.size + 1, 0, none⟩) 2 2) [fr, tt]) := by
    have := isI_new (w.alloc (opObj ⟨wh, ⟨id, kd, .slice a l c, rc⟩, ⟨nm, pt, pn, ps⟩, ⟨bd, fr, tt⟩⟩)) (l := [fr, tt])
    show IsI _ _ _
    simpa [cellsI] using this
  rcases ho with rfl | rfl
  · go_enter Tryz.func36, Tryz.ntmps36
    go_wp2
    go_ret
    exact ⟨_, rfl, HI.out, HB.out⟩
  · go_enter Tryz.func36, Tryz.ntmps36
    go_wp2
    go_ret
    exact ⟨_, rfl, HI.out, HB.out⟩

set_option maxHeartbeats 2000000 in
set_option maxRecDepth 100000 in
theorem tb_one {vt : Value} {o : Opx} {w : World} {a l c} (hR : o.nd.rv = .slice a l c) (h5 : ¬ o.wh = 5) (h6 : ¬ o.wh = 6) (h2 : ¬ o.wh = 2) :
    Calls Tryz.prog 36 #[vt, o.one] w fun e w' => ∃ v, e = .returned v ∧ IsI w' v [o.nd.id] ∧ Below w.heap.size w w' := by
  obtain ⟨wh, ⟨id, kd, rv, rc⟩, ⟨nm, pt, pn, ps⟩, ⟨bd, fr, tt⟩⟩ := o
  simp only at h5 h6 h2 hR ⊢
  subst hR
  have HB : Hid (Below w.heap.size w ((w.alloc (opObj ⟨wh, ⟨id, kd, .slice a l c, rc⟩, ⟨nm, pt, pn, ps⟩, ⟨bd, fr, tt⟩⟩)).alloc (.cells #[.int .i64 id] 3))) := b_alloc (b_alloc (Below.refl _ _) _) _
  have HI : Hid (IsI ((w.alloc (opObj ⟨wh, ⟨id, kd, .slice a l c, rc⟩, ⟨nm, pt, pn, ps⟩, ⟨bd, fr, tt⟩⟩)).alloc (.cells #[.int .i64 id] 3)) (.slice (some ⟨w.heap.size + 1, 0, none⟩) 1 1) [id]) := by
    have := isI_new (w.alloc (opObj ⟨wh, ⟨id, kd, .slice a l c, rc⟩, ⟨nm, pt, pn, ps⟩, ⟨bd, fr, tt⟩⟩)) (l := [id])
    show IsI _ _ _
    simpa [cellsI] using this
  have e5 : (wh == 5) = false := by simpa using h5
  have e6 : (wh == 6) = false := by simpa using h6
  have e2 : (wh == 2) = false := by simpa using h2
  clear h5 h6 h2
  go_enter Tryz.func36, Tryz.ntmps36
  go_wp2
  go_ret
  exact ⟨_, rfl, HI.out, HB.out⟩

set_option maxHeartbeats 4000000 in
set_option maxRecDepth 100000 in
theorem tb_gone {vt : Value} {T : List Te} {o : Opx} {w : World} {a l c} (hT : IsT w vt T) (hT0 : T.length ≤ 120) (hR : o.nd.rv = .slice a l c) (h2 : o.wh = 2) :
    Calls Tryz.prog 36 #[vt, o.one] w fun e w' => ∃ v, e = .returned v ∧ IsI w' v (endsOf T o.nd.id ++ [o.nd.id]) ∧ Below w.heap.size w w' := by
  obtain ⟨i0, hi0, hz0, hz1, hz2⟩ := info_parts infoI
  obtain ⟨wh, ⟨id, kd, rv, rc⟩, ⟨nm, pt, pn, ps⟩, ⟨bd, fr, tt⟩⟩ := o
  simp only at h2 hR ⊢
  subst hR h2
  obtain ⟨W0, hW0⟩ : ∃ W0, W0 = w.alloc (.cells #[.int .i64 2, .int .i64 id, .string kd, .slice a l c, .string nm, .int .i64 pt, .int .i64 pn, .string ps, .string bd, .int .i64 fr, .int .i64 tt] 56) := ⟨_, rfl⟩
  have n0 : W0.heap[w.heap.size]? = some (.cells #[.int .i64 2, .int .i64 id, .string kd, .slice a l c, .string nm, .int .i64 pt, .int .i64 pn, .string ps, .string bd, .int .i64 fr, .int .i64 tt] 56 (0, 0)) := by rw [hW0]; exact heap_alloc_new w _
  have x0 : W0.cell? ⟨w.heap.size, 0, none⟩ = some (.int .i64 2) := cell_at n0 rfl
  have x1 : W0.cell? ⟨w.heap.size, 1, none⟩ = some (.int .i64 id) := cell_at n0 rfl
  have HB0 : Hid (Below w.heap.size w W0) := by rw [hW0]; exact b_alloc (Below.refl _ _) _
  have hlt0 : w.heap.size < W0.heap.size := by rw [hW0]; simp
  obtain ⟨E, hE⟩ : ∃ E, endsOf T id = E := ⟨_, rfl⟩
  have HL : Hid (E.length + 1 ≤ maxLen ∧ (E.length + 1) * 8 ≤ 140737488355328) := by
    have := ends_le T id
    rw [hE] at this
    unfold maxLen; exact ⟨by omega, by omega⟩
  have cO : Hid (∀ W, Below w.heap.size w W → Calls Tryz.prog 52 #[vt, .int .i64 id] W fun e w' => ∃ v, e = .returned v ∧ w'.ownsRow w.heap.size 3 1 v E.length (cellsI E) ∧ Below w.heap.size w w' ∧ W.heap.size ≤ w'.heap.size ∧ ∀ p u, W.cell? p = some u → w'.cell? p = some u) := fun W hW => by
    refine (oends_any (hT.on hW) hT0 id).mono ?_
    rintro e w' ⟨v, rfl, h1, h2⟩
    rw [hE] at h1
    exact ⟨v, rfl, own_base h1 hW.size, on1 hW h2, h2.size, fun p u hp => (h2.cell (cell_lt hp)).trans hp⟩
  rw [hE]
  have HW0 := Lib.hid hW0
  clear hE hT hW0 n0
  go_enter Tryz.func36, Tryz.ntmps36
  go_wp2
  rw [← HW0.out]
  clear HW0
  go_region_law (first
    | (go_simp; go_at_call 52; refine (cO.out _ (by first | exact b_drew HB0.out | exact b_alloc (b_drew HB0.out) _ | exact b_drew (b_alloc HB0.out _))).mono ?_; rintro e W1 ⟨v1, rfl, ho1, hB1, hs1, hk1⟩; have y1 := hk1 ⟨w.heap.size, 1, none⟩ (.int .i64 id) (by first | exact x1 | exact cell_old x1 _); have HW1 : Hid (W1.ownsRow w.heap.size 3 1 v1 E.length (cellsI E) ∧ Below w.heap.size w W1) := ⟨ho1, hB1⟩; have HK1 := Lib.hid hk1; obtain ⟨a1, c1, hv1⟩ := own_slice ho1; subst hv1; clear ho1 hB1 hk1)
    | (refine step_append_own rfl (.tmp 23) (.tmp 27) 42 rfl w.heap.size 3 i0 _ 1 8 Tryz.underlying42 hi0 hz0 hz1 hz2 rfl (by decide) (.slice a1 E.length c1) E.length (cellsI E) (by simp [Act.eval, Act.put]; done) (by first | exact HW1.out.1 | exact HW1.out.1.alloc _) ⟨W1.heap.size, 0, none⟩ 1 1 [.int .i64 id] (by simp [Act.eval, Act.put]; done) rfl (by have := new_at W1 [.int .i64 id] 3; simpa using this) (by simp [Value.oneCell']) HL.out.1 HL.out.2 (by have := HW1.out.2.size; simp; omega) ?_; intro v2 w2 hown2 hgrow2; have HX : Hid (IsI w2 v2 (E ++ [id]) ∧ Below w.heap.size w w2) := ⟨own_isI (by rw [List.length_append, cellsI_app]; exact hown2), (b_alloc HW1.out.2 _).grown hgrow2 (b_alloc HW1.out.2 _).size (fun k hk => (HW1.out.1.lt k hk).1)⟩; clear hown2 hgrow2)
    | (refine step_append_own rfl (.tmp 23) (.tmp 27) 42 rfl w.heap.size 3 i0 _ 1 8 Tryz.underlying42 hi0 hz0 hz1 hz2 rfl (by decide) (.slice a1 E.length c1) E.length (cellsI E) (by simp [Act.eval, Act.put]; done) HW1.out.1 ⟨W0.heap.size, 0, none⟩ 1 1 [.int .i64 id] (by simp [Act.eval, Act.put]; done) rfl (by intro j u hu; refine HK1.out _ _ ?_; have := new_at W0 [.int .i64 id] 3 j u hu; simpa using this) (by simp [Value.oneCell']) HL.out.1 HL.out.2 HW1.out.2.size ?_; intro v2 w2 hown2 hgrow2; have HX : Hid (IsI w2 v2 (E ++ [id]) ∧ Below w.heap.size w w2) := ⟨own_isI (by rw [List.length_append, cellsI_app]; exact hown2), HW1.out.2.grown hgrow2 HW1.out.2.size (fun k hk => (HW1.out.1.lt k hk).1)⟩; clear hown2 hgrow2))
  all_goals
    go_wp2
    go_ret
    exact ⟨_, rfl, HX.out.1, HX.out.2⟩

theorem tb_any {vt : Value} {T : List Te} {o : Opx} {w : World} (hT : IsT w vt T) (hT0 : T.length ≤ 120) (hR : IsR w o.nd.rv o.nd.rc) :
    Calls Tryz.prog 36 #[vt, o.one] w fun e w' => ∃ v, e = .returned v ∧ IsI w' v (touB T o) ∧ Below w.heap.size w w' := by
  obtain ⟨a, l, c, hv⟩ := hR.sl
  unfold touB
  by_cases h5 : o.wh = 5 ∨ o.wh = 6
  · rw [if_pos h5]; exact tb_two hv h5
  · rw [if_neg h5]
    by_cases h2 : o.wh = 2
    · rw [if_pos h2]; exact tb_gone hT hT0 hv h2
    · rw [if_neg h2]; exact tb_one hv (fun h => h5 (.inl h)) (fun h => h5 (.inr h)) h2
end Go.Proofs.YtifhigajonafdaaGreat
