/-
  The walk of index.shapesOf.
-/
import Derived.Test.YtjnjbajnmclmjaaGreatDoorM12
import Derived.Test.YtjnjbajnmclmjaaGreatDoorM23
import Derived.Lib.SliceRun
import Derived.Test.YtjnjbajnmclmjaaGreatDoorM11
import Derived.Laws.Externs
import Derived.Deep.QuietTactic
import Derived.BigQuiet
import Derived.BigGuard
import Derived.Deep.RegionWith
namespace Go.Proofs.YtjnjbajnmclmjaaGreatDoor
open Go.RowKit
open Go.Maps (Keyed)
set_option linter.unusedVariables false
set_option linter.unusedSimpArgs false

/-- What is asked of a kind: its kin, its keys. -/
structure Hp where
  kn : List Nm
  ks : List Nm
def hpP (L : List Kd) (a : Nm) : Hp := ⟨nms (kin L a), keysF (fields L a)⟩
def hpO (L M : List Kd) : ByteArray → Option Hp := M.foldl (fun F k => upd F (bs k.nm) (hpP L k.nm)) (fun _ => none)
theorem hpO_take {L M : List Kd} {k : Nat} {x : Kd} (h : M[k]? = some x) : hpO L (M.take (k + 1)) = upd (hpO L (M.take k)) (bs x.nm) (hpP L x.nm) := foldl_take _ _ h
/-- It lies in rows of the call's own. -/
def OwnHp (w : World) (base : Nat) (v : Value) (h : Hp) : Prop := ∃ vk vs, v = .agg #[vk, vs] ∧ w.ownsRow base 9 1 vk h.kn.length (cellsS h.kn) ∧ w.ownsRow base 9 1 vs h.ks.length (cellsS h.ks)
theorem OwnHp.kt {w w' : World} {base : Nat} {v : Value} {h : Hp} (hh : OwnHp w base v h) (hk : Kt 9 w w') : OwnHp w' base v h := by
  obtain ⟨a, b, rfl, h1, h2⟩ := hh
  exact ⟨a, b, rfl, own_kt h1 hk, own_kt h2 hk⟩
def HpR (w : World) (base : Nat) (o : Option Value) (h : Option Hp) : Prop := (o = none ∧ h = none) ∨ ∃ v s, o = some v ∧ h = some s ∧ OwnHp w base v s
/-- Block b is a map of these. -/
def MapHp (w : World) (base b : Nat) (H : ByteArray → Option Hp) : Prop := ∃ F, OwnM w Tryz.prog 9 encS b F ∧ ∀ x, HpR w base (F x) (H x)
theorem MapHp.kt {w w' : World} {base b : Nat} {H : ByteArray → Option Hp} (h : MapHp w base b H) (hb : w'.heap[b]? = w.heap[b]?) (hk : Kt 9 w w') : MapHp w' base b H := by
  obtain ⟨F, h1, h2⟩ := h
  refine ⟨F, h1.of_block hb, fun x => ?_⟩
  rcases h2 x with h | ⟨v, s, e1, e2, hh⟩
  · exact .inl h
  · exact .inr ⟨v, s, e1, e2, hh.kt hk⟩
theorem MapHp.on {w w' : World} {base b : Nat} {H : ByteArray → Option Hp} (h : MapHp w base b H) (hB : Below w.heap.size w w') : MapHp w' base b H := by
  obtain ⟨F, h1, h2⟩ := h
  exact MapHp.kt ⟨F, h1, h2⟩ (hB.block b h1.lt) (.of_below hB)
theorem Kt.of_map {t : TypeId} {κ : Type} {k : TypeId} {enc : κ → Value} {b : Nat} {F : κ → Option Value} {w w' : World} (h : OwnM w Tryz.prog k enc b F) (hg : w.grownBy w' (some b)) : Kt t w w' := by
  obtain ⟨es, c, hm, _⟩ := h
  exact ⟨hg.size, fun x cs hx => (hg.block x (Array.getElem?_eq_some_iff.1 hx).1 (fun e => by injection e with e; subst e; rw [hm] at hx; cases hx)).trans hx⟩
theorem mapHp_put {w : World} {base b : Nat} {H : ByteArray → Option Hp} (h : MapHp w base b H) {x : ByteArray} {l : Lit} (hk : keyOf Tryz.prog 9 (encS x) = some l) {v : Value} {s : Hp} (hv : OwnHp w base v s) :
    ∃ w', (Instr.mapUpdate 78 (.map (some b)) (encS x) v).run Tryz.prog w = .ok () w' ∧ MapHp w' base b (upd H x s) ∧ w.grownBy w' (some b) ∧ Kp w w' ∧ Kt 9 w w' := by
  obtain ⟨F, h1, h2⟩ := h
  obtain ⟨w', r1, r2, r3⟩ := h1.put keyedS encS_inj Tryz.underlying78 hk v
  have hK := but_map h1 r3
  have hT : Kt 9 w w' := Kt.of_map h1 r3
  refine ⟨w', r1, ⟨_, r2, fun y => ?_⟩, r3, hK, hT⟩
  unfold upd
  split
  · exact .inr ⟨v, s, rfl, rfl, hv.kt hT⟩
  · rcases h2 y with h | ⟨v', s', e1, e2, hh⟩
    · exact .inl h
    · exact .inr ⟨v', s', e1, e2, hh.kt hT⟩
set_option maxHeartbeats 8000000 in
set_option maxRecDepth 100000 in
theorem shapesOf_any {vk vb : Value} {L : List Kd} {w : World} (hK : IsK w vk L) (hP : Parts w L) (hz : SzK L) (he : (ksErr L).2 = 0) (hvb : ∃ a n c, vb = .slice a n c) :
    Calls Tryz.prog 22 #[.agg #[vk, vb]] w fun e w' => ∃ b, e = .returned (.map (some b)) ∧ w.heap.size ≤ b ∧ MapHp w' w.heap.size b (hpO L L) ∧ Below w.heap.size w w' := by
  have hl12 := ksErr_len he
  obtain ⟨ab, nb, cb, rfl⟩ := hvb
  obtain ⟨ak, ck, rfl, _⟩ := hK.sln
  obtain ⟨W2, hW2⟩ : ∃ W2, W2 = (w.alloc (.cells #[.slice ak L.length ck, .slice ab nb cb] 25)).alloc (.map #[] 0) := ⟨_, rfl⟩
  have hB2 : Below w.heap.size w W2 := by rw [hW2]; exact b_alloc (b_alloc (Below.refl _ _) _) _
  have n0 : W2.heap[w.heap.size]? = some (.cells #[.slice ak L.length ck, .slice ab nb cb] 25 (0, 0)) := by rw [hW2]; exact (heap_alloc_old _ _ (by simp)).trans (heap_alloc_new w _)
  have hs2 : W2.heap.size = w.heap.size + 2 := by rw [hW2]; simp
  have hM0 : MapHp W2 w.heap.size (w.heap.size + 1) (hpO L (L.take 0)) := by
    refine ⟨fun _ => none, ?_, fun x => .inl ⟨rfl, rfl⟩⟩
    have := OwnM.made (P := Tryz.prog) (k := 9) (enc := encS) (w.alloc (.cells #[.slice ak L.length ck, .slice ab nb cb] 25))
    rw [World.size_alloc] at this
    rw [hW2]; exact this
  have HH : Hid (IsK w (.slice ak L.length ck) L ∧ Parts w L ∧ (ksErr L).2 = 0 ∧ Below w.heap.size w W2 ∧ W2.heap[w.heap.size]? = some (.cells #[.slice ak L.length ck, .slice ab nb cb] 25 (0, 0)) ∧ W2.heap.size = w.heap.size + 2 ∧ MapHp W2 w.heap.size (w.heap.size + 1) (hpO L (L.take 0))) := ⟨hK, hP, he, hB2, n0, hs2, hM0⟩
  have x0 : W2.cell? ⟨w.heap.size, 0, none⟩ = some (.slice ak L.length ck) := cell_at n0 rfl
  have hmm := @run_makeMap Tryz.prog
  clear hK hP he hB2 n0 hs2 hM0
  go_enter Tryz.func22, Tryz.ntmps22
  go_upto_region 2 with fail
  rw [← hW2]
  clear hW2
  go_wp2
  go_loopw [14] (fun i wr => ∃ k : Nat, k ≤ L.length ∧ i = .int .i64 k ∧ MapHp wr w.heap.size (w.heap.size + 1) (hpO L (L.take k)) ∧ W2.grownBy wr (some (w.heap.size + 1))) (fun i _ => L.length - (intOf i).toNat)
  case atStart => exact ⟨0, Nat.zero_le _, rfl, HH.out.2.2.2.2.2.2, but_of_below (Below.refl _ _) _⟩
  case round =>
    obtain ⟨k, hk, rfl, hM, hg⟩ := hrel
    have hbw : Below w.heap.size w wr := HH.out.2.2.2.1.trans (below_but hg (by have := HH.out.2.2.2.2.2.1; omega) (by omega))
    have y0 := (hg.block w.heap.size (by have := HH.out.2.2.2.2.2.1; omega) (by simp)).trans HH.out.2.2.2.2.1
    have hsz : w.heap.size + 2 ≤ wr.heap.size := by have := hg.size; have := HH.out.2.2.2.2.2.1; omega
    by_cases hlt : k < L.length
    · obtain ⟨x, hx⟩ : ∃ x, L[k]? = some x := ⟨L[k], by simp [hlt]⟩
      obtain ⟨b, off, c, hv, hb, e0, e1, e2⟩ := HH.out.1.at hx
      injection hv with hv1 hv2 hv3
      subst hv1 hv3
      clear hv2
      have d0 := (hbw.cell (p := ⟨b, off + k * 3, none⟩) hb).trans e0
      have d1 := (hbw.cell (p := ⟨b, off + k * 3 + 1, none⟩) hb).trans e1
      have d2 := (hbw.cell (p := ⟨b, off + k * 3 + 2, none⟩) hb).trans e2
      have hxm := List.mem_of_getElem? hx
      have hT := hpO_take (L := L) hx
      obtain ⟨p1, p2⟩ := HH.out.2.1 x hxm
      have hnm := in_nmErr HH.out.2.2.1 hxm
      obtain ⟨kl, hkl⟩ := keyS (s := bs x.nm) (by rw [bs_size]; exact (hz x hxm).1)
      obtain ⟨ao, co, ho, _⟩ := p1.sln
      obtain ⟨af, cf, hf, _⟩ := p2.sln
      obtain ⟨nm, of, fs, vo, vf⟩ := x
      simp only at d0 d1 d2 hT hnm hkl ho hf
      subst ho
      subst hf
      obtain ⟨W3, hW3⟩ : ∃ W3, W3 = wr.alloc (.cells #[.string (bs nm), .slice ao of.length co, .slice af fs.length cf] 36) := ⟨_, rfl⟩
      have hB3 : Below wr.heap.size wr W3 := by rw [hW3]; exact b_alloc (Below.refl _ _) _
      have n3 : W3.heap[wr.heap.size]? = some (.cells #[.string (bs nm), .slice ao of.length co, .slice af fs.length cf] 36 (0, 0)) := by rw [hW3]; exact heap_alloc_new wr _
      have HC : Hid (∀ W, Below W3.heap.size W3 W → Below wr.heap.size wr W ∧ W.cell? ⟨w.heap.size, 0, none⟩ = some (.slice (some ⟨b, off, none⟩) L.length ck) ∧ W.cell? ⟨wr.heap.size, 0, none⟩ = some (.string (bs nm))) := fun W h => by
        have h' := on1K hB3 h (Nat.le_refl _)
        exact ⟨h', cell_at ((h'.block _ (by omega)).trans y0) rfl, cell_at ((h.block _ (Array.getElem?_eq_some_iff.1 n3).1).trans n3) rfl⟩
      have ck1 := fun W (h : Below W3.heap.size W3 W) => kin_any (HH.out.1.on (on1K hbw (on1K hB3 h (Nat.le_refl _)) (Nat.le_refl _))) (HH.out.2.1.on (on1K hbw (on1K hB3 h (Nat.le_refl _)) (Nat.le_refl _))) hz nm
      have cf1 := fun W (h : Below W3.heap.size W3 W) => fields_any (HH.out.1.on (on1K hbw (on1K hB3 h (Nat.le_refl _)) (Nat.le_refl _))) (HH.out.2.1.on (on1K hbw (on1K hB3 h (Nat.le_refl _)) (Nat.le_refl _))) hz nm
      have HCk := Lib.hid ck1
      have HCf := Lib.hid cf1
      have HN : Hid (nmErr L nm = 0) := hnm
      have HF : Hid (∀ W6 v s, Below W3.heap.size W3 W6 → W6.ownsRow w.heap.size 9 1 v (nms (kin L nm)).length (cellsS (nms (kin L nm))) → W6.ownsRow w.heap.size 9 1 s (keysF (fields L nm)).length (cellsS (keysF (fields L nm))) → ∃ w7, (Instr.mapUpdate 78 (.map (some (w.heap.size + 1))) (.string (bs nm)) (.agg #[v, s])).run Tryz.prog W6 = .ok () w7 ∧ (MapHp w7 w.heap.size (w.heap.size + 1) (hpO L (L.take (k + 1))) ∧ W2.grownBy w7 (some (w.heap.size + 1))) ∧ Kp W6 w7) := fun W6 v s h6 o1 o2 => by
        have h' := on1K hB3 h6 (Nat.le_refl _)
        obtain ⟨w7, r1, r2, r3, r4, _⟩ := mapHp_put (hM.on h') hkl (v := .agg #[v, s]) (s := hpP L nm) ⟨v, s, rfl, o1, o2⟩
        exact ⟨w7, r1, ⟨by rw [hT]; exact r2, but_trans (but_below hg h') r3⟩, r4⟩
      have HW3 := Lib.hid hW3
      have hzw : Hid (w.heap.size ≤ wr.heap.size ∧ wr.heap.size ≤ W3.heap.size) := ⟨by omega, hB3.size⟩
      obtain ⟨_, u0, u1⟩ := HC.out W3 (Below.refl _ _)
      have hbn : ¬ b = wr.heap.size := by have := hbw.size; omega
      clear hB3 n3 ck1 cf1 e0 e1 e2 hx hT hkl hnm hxm p1 p2 hM hg hbw y0 hW3
      go_upto_region 5 with fail
      rw [← HW3.out]
      go_wp2_with (first | (go_at_call 35; refine (HCk.out W3 (Below.refl _ _)).mono ?_; rintro e W4 ⟨v4, rfl, hv4, _, hB4⟩; refine Hid.out ?_))
      refine Lib.hid ?_
      have ho4 := hv4 HN.out
      obtain ⟨a4, c4, rfl⟩ := own_slice ho4
      rw [HN.out, errV_0]
      obtain ⟨_, s0, s1⟩ := HC.out W4 hB4
      have H4 : Hid (W4.ownsRow w.heap.size 9 1 (.slice a4 (nms (kin L nm)).length c4) (nms (kin L nm)).length (cellsS (nms (kin L nm))) ∧ Below W3.heap.size W3 W4) := ⟨own_base ho4 (Nat.le_trans hzw.out.1 hzw.out.2), hB4⟩
      clear hv4 ho4 hB4 u0 u1
      go_wp2_with (first | (go_at_call 40; refine (HCf.out W4 H4.out.2).mono ?_; rintro e W5 ⟨v5, rfl, hv5, _, hB5⟩; refine Hid.out ?_))
      refine Lib.hid ?_
      obtain ⟨ho5, _, hf8⟩ := hv5 HN.out
      have hI5 := own_isF ho5
      obtain ⟨a5, c5, rfl⟩ := own_slice ho5
      rw [HN.out, errV_0]
      have hB35 := on1K H4.out.2 hB5 (Nat.le_refl _)
      obtain ⟨_, t0, t1⟩ := HC.out W5 hB35
      have H5 : Hid (W5.ownsRow w.heap.size 9 1 (.slice a4 (nms (kin L nm)).length c4) (nms (kin L nm)).length (cellsS (nms (kin L nm))) ∧ Below W3.heap.size W3 W5) := ⟨own_kt H4.out.1 (.of_below hB5), hB35⟩
      have cK := keyNames_any (w := W5.drew) (v := .slice a5 (fields L nm).length c5) (l := fields L nm) hI5 (by omega)
      have HKc : Hid (∀ W6, Kp W5.drew W6 → W6.cell? ⟨wr.heap.size, 0, none⟩ = some (.string (bs nm))) := fun W6 hK => hK.2 _ _ t1
      have HKn : Hid (∀ W6 u, W6.ownsRow W5.drew.heap.size 9 1 u (keysF (fields L nm)).length (cellsS (keysF (fields L nm))) → Below W5.drew.heap.size W5.drew W6 → ∃ w7, (Instr.mapUpdate 78 (.map (some (w.heap.size + 1))) (.string (bs nm)) (.agg #[.slice a4 (nms (kin L nm)).length c4, u])).run Tryz.prog W6 = .ok () w7 ∧ (MapHp w7 w.heap.size (w.heap.size + 1) (hpO L (L.take (k + 1))) ∧ W2.grownBy w7 (some (w.heap.size + 1))) ∧ Kp W6 w7) := fun W6 u h6 hB6 => HF.out W6 _ u (on1K H5.out.2 (b_undrew hB6) (Nat.le_refl _)) (own_kt H5.out.1 (.of_below (b_undrew hB6))) (own_base h6 (by have := H5.out.2.size; have := hzw.out; show w.heap.size ≤ W5.heap.size; omega))
      clear hv5 ho5 hI5 hB5 hB35 hf8 s0 s1
      obtain ⟨nk, hnk⟩ : ∃ nk, nk = (nms (kin L nm)).length := ⟨_, rfl⟩
      rw [← hnk] at HKn ⊢
      clear hnk
      go_wp2
      first | (go_region_held_law (fun w' => w'.cell? ⟨wr.heap.size, 0, none⟩ = some (.string (bs nm))) (go_keep) (first | (go_simp; go_at_call 41; refine cK.mono ?_; rintro e W6 ⟨v6, rfl, ho6, hB6⟩; obtain ⟨w7, hrun, hN7, hK7⟩ := HKn.out W6 v6 ho6 hB6; obtain ⟨a6, c6, rfl⟩ := own_slice ho6; have q0 := HKc.out W6 (Kp.of_below hB6); have q1 := HKc.out w7 ((Kp.of_below hB6).trans hK7); have HN7 := Lib.hid hN7; clear hN7 ho6 hB6 hK7))) | fail
      all_goals
        go_wp2
        refine ⟨?_, ?_⟩
        · first | exact ⟨k + 1, by omega, by go_num, HN7.out⟩ | ((repeat apply Exists.intro); refine ⟨?_, rfl⟩; exact ⟨k + 1, by omega, by go_num, HN7.out⟩)
        · simp [intOf]
          try omega
    · obtain rfl : k = L.length := by omega
      rw [List.take_length] at hM
      clear y0
      go_wp2
      go_ret
      exact ⟨_, rfl, by omega, hM, hbw⟩
end Go.Proofs.YtjnjbajnmclmjaaGreatDoor

/-
  The walk of index.conform.
-/
namespace Go.Proofs.YtjnjbajnmclmjaaGreatDoor
open Go.RowKit
set_option linter.unusedVariables false
set_option linter.unusedSimpArgs false

/-- What is wrong with the two, or that they do not go together. -/
def cfE (L : List Kd) (B : List Bd) (N : List Nd) (T : List Te) : Int := if inE L B N T = 0 then (if confB L B N T then 0 else 9) else inE L B N T
set_option maxHeartbeats 8000000 in
set_option maxRecDepth 100000 in
theorem conform_any {vs vg : Value} {L : List Kd} {B : List Bd} {N : List Nd} {T : List Te} {w : World} (hs : IsSc w vs L B) (hg : IsG w vg N T) : Calls Tryz.prog 20 #[vs, vg] w fun e w' => e = .returned (errV (cfE L B N T)) ∧ Below w.heap.size w w' := by
  obtain ⟨vk, vb, rfl, hK, hP, hz, hb, hzb⟩ := hs
  obtain ⟨vn, vt, rfl, hN, hT, zN, zT, lN, lT⟩ := hg
  obtain ⟨ak, ck, rfl, hl1⟩ := hK.sln
  obtain ⟨ab, cb, rfl, hl2⟩ := hb.sln
  have HN : Hid (IsN w vn N ∧ IsT w vt T) := ⟨hN, hT⟩
  obtain ⟨an, cn, rfl, _⟩ := hN
  obtain ⟨at', ct, rfl, _⟩ := hT
  have HB0 : Hid (Below w.heap.size w (box2 w #[.slice ak L.length ck, .slice ab B.length cb] 25 #[.slice an N.length cn, .slice at' T.length ct] 29)) := box2_below _ _ _ _ _
  have c := conforms_any (L := L) (B := B) (N := N) (T := T) (w := (box2 w #[.slice ak L.length ck, .slice ab B.length cb] 25 #[.slice an N.length cn, .slice at' T.length ct] 29)) ⟨_, _, rfl, hK.on HB0.out, hP.on HB0.out, hz, hb.on HB0.out, hzb⟩ ⟨_, _, rfl, HN.out.1.on HB0.out, HN.out.2.on HB0.out, zN, zT, lN, lT⟩
  have hE : cfE L B N T = if inE L B N T = 0 then (if confB L B N T then 0 else 9) else inE L B N T := rfl
  generalize confB L B N T = cb1 at c hE
  generalize inE L B N T = ie at c hE
  generalize cfE L B N T = ce at hE
  clear hK hP hz hb hzb zN zT lN lT hl1 hl2
  by_cases he : ie = 0
  · subst he
    rw [if_pos rfl] at hE
    rw [errV_0] at c
    cases cb1
    · have h9 : errV ce = .iface 92 (.int .i64 9) := by rw [hE]; exact errV_ne (by decide)
      rw [h9]
      clear hE h9
      go_enter Tryz.func20, Tryz.ntmps20
      go_wp2_with (go_at_call 9; refine c.mono ?_; rintro e W1 ⟨rfl, hB1⟩)
      go_ret
      exact ⟨rfl, on1KC HB0.out hB1 (Nat.le_refl _)⟩
    · have h9 : errV ce = .nilIface := by rw [hE]; exact errV_0
      rw [h9]
      clear hE h9
      go_enter Tryz.func20, Tryz.ntmps20
      go_wp2_with (go_at_call 9; refine c.mono ?_; rintro e W1 ⟨rfl, hB1⟩)
      go_ret
      exact ⟨rfl, on1KC HB0.out hB1 (Nat.le_refl _)⟩
  · rw [if_neg he] at hE
    subst hE
    rw [errV_ne he] at c ⊢
    clear he
    go_enter Tryz.func20, Tryz.ntmps20
    go_wp2_with (go_at_call 9; refine c.mono ?_; rintro e W1 ⟨rfl, hB1⟩)
    go_ret
    exact ⟨rfl, on1KC HB0.out hB1 (Nat.le_refl _)⟩
end Go.Proofs.YtjnjbajnmclmjaaGreatDoor

/-
  The walk of slices.Clone of ints.
-/
namespace Go.Proofs.YtjnjbajnmclmjaaGreatDoor
open Go.RowKit
set_option linter.unusedVariables false
set_option linter.unusedSimpArgs false

def cellsI (L : List Int) : List Value := L.map (fun x => .int .i64 x)
theorem cellsI_len (L : List Int) : (cellsI L).length = L.length * 1 := by simp [cellsI]
theorem int_one (L : List Int) : ∀ u ∈ cellsI L, u.oneCell' = true := by
  intro u hu
  obtain ⟨p, _, rfl⟩ := List.mem_map.1 hu
  rfl
theorem infoInt : (Tryz.prog.info? 3).map (fun i => (i.zero, i.size, i.bytes)) = some (some (.int .i64 0), 1, 8) := by kernel_rfl
set_option maxHeartbeats 8000000 in
set_option maxRecDepth 100000 in
theorem cloneI_some {a : Addr} {c : Nat} {L : List Int} {w : World} (hL : ∀ j u, (cellsI L)[j]? = some u → w.cell? (a.add j) = some u) (hl : L.length ≤ 1000000) :
    Calls Tryz.prog 28 #[.slice (some a) L.length c] w fun e w' => ∃ u, e = .returned u ∧ w'.ownsRow w.heap.size 3 1 u L.length (cellsI L) ∧ Below w.heap.size w w' := by
  obtain ⟨i0, hi, hz0, hz1, hz2⟩ := info_parts infoInt
  have q60 : ∀ (w : World) (a : Option Addr) (n c n' c' : Nat), (binOp .eql 60 (.slice a n c) (.slice none n' c')).run Tryz.prog w = .ok (.bool a.isNone) w := fun w a n c n' c' => Lib.run_eql_slice_nil w _ _ a n c n' c' Tryz.underlying60
  have A : Hid (∀ j u, (cellsI L)[j]? = some u → w.cell? (a.add j) = some u) := hL
  clear hL
  go_enter Tryz.func28, Tryz.ntmps28
  go_wp2_with (at_builtin; refine wpList_append_own _ rfl _ _ 60 rfl w.heap.size 3 i0 (.int .i64 0) 1 8 Tryz.underlying60 hi hz0 hz1 hz2 rfl (by decide) _ _ _ rfl (World.ownsRow_made w #[] 0 (Nat.le_refl _) (Nat.zero_le _) rfl) a L.length c (cellsI L) rfl ?qc1 ?qc2 ?qc3 ?qc4 ?qc5 ?qc6 ?_)
  case qc1 => exact cellsI_len L
  case qc2 =>
    intro j u hj
    refine Lib.cell?_alloc_some _ ?_
    exact A.out j u hj
  case qc3 => exact int_one L
  case qc4 => unfold maxLen; omega
  case qc5 => omega
  case qc6 => simp
  intro v' w1 hown hgrow hnil
  go_wp2
  go_ret
  refine ⟨v', rfl, by simpa using hown, ?_⟩
  exact ((Below.refl _ w).alloc (Nat.le_refl _) _).grown hgrow (by simp) (by intro k hk; simp [Value.ownBlock] at hk; omega)
set_option maxHeartbeats 1000000 in
theorem cloneI_nil (n c : Nat) (w : World) : Calls Tryz.prog 28 #[.slice none n c] w fun e w' => e = .returned (.slice none 0 0) ∧ w' = w := by
  have q60 : ∀ (w : World) (a : Option Addr) (n c n' c' : Nat), (binOp .eql 60 (.slice a n c) (.slice none n' c')).run Tryz.prog w = .ok (.bool a.isNone) w := fun w a n c n' c' => Lib.run_eql_slice_nil w _ _ a n c n' c' Tryz.underlying60
  go_enter Tryz.func28, Tryz.ntmps28
  go_wp2
  go_ret
  exact ⟨rfl, rfl⟩
theorem cloneI_any {v : Value} {L : List Int} {w : World} (h : HasC w v L.length (cellsI L)) (hl : L.length ≤ 1000000) :
    Calls Tryz.prog 28 #[v] w fun e w' => ∃ u, e = .returned u ∧ w'.ownsRow w.heap.size 3 1 u L.length (cellsI L) ∧ Below w.heap.size w w' := by
  obtain ⟨ao, c, rfl, ⟨h0, h1⟩ | ⟨b, off, rfl, hb, hL⟩⟩ := h
  · cases ao with
    | none =>
      refine (cloneI_nil _ _ _).mono ?_
      rintro e w' ⟨rfl, rfl⟩
      refine ⟨_, rfl, ?_, Below.refl _ _⟩
      rw [h0, h1]
      exact World.ownsRow_nil _ _ _ _
    | some a => exact cloneI_some (by rw [h1]; intro j u hj; simp at hj) hl
  · exact cloneI_some hL hl
end Go.Proofs.YtjnjbajnmclmjaaGreatDoor

/-
  The walks of delta.findNode and what it calls: where the node of an id stands, or would stand.
-/
namespace Go.Proofs.YtjnjbajnmclmjaaGreatDoor
open Go.RowKit
set_option linter.unusedVariables false
set_option linter.unusedSimpArgs false

/-- Nodes rise by their ids. -/
def SrtN (N : List Nd) : Prop := N.Pairwise fun a b => a.id < b.id
/-- How many are ahead of an id. -/
def loN (id : Int) : List Nd → Nat
  | [] => 0
  | n :: r => if n.id < id then loN id r + 1 else 0
theorem loN_le (id : Int) : ∀ l : List Nd, loN id l ≤ l.length
  | [] => Nat.le_refl _
  | n :: r => by have := loN_le id r; unfold loN; split <;> simp <;> omega
theorem loN_spec (id : Int) : ∀ {l : List Nd}, SrtN l → ∀ (i : Nat) (g : Nd), l[i]? = some g → (i < loN id l ↔ g.id < id)
  | [], _, i, g, hg => by simp at hg
  | x :: r, h, i, g, hg => by
    obtain ⟨h1, h2⟩ := List.pairwise_cons.1 h
    by_cases hx : x.id < id
    · have e : loN id (x :: r) = loN id r + 1 := by simp [loN, hx]
      rw [e]
      cases i with
      | zero => simp at hg; subst hg; simp [hx]
      | succ i =>
        have := loN_spec id h2 i g (by simpa using hg)
        rw [← this]; omega
    · have e : loN id (x :: r) = 0 := by simp [loN, hx]
      rw [e]
      have hge : x.id ≤ g.id := by
        cases i with
        | zero => simp at hg; subst hg; omega
        | succ i => have := h1 g (List.mem_of_getElem? (by simpa using hg)); omega
      constructor
      · intro h; omega
      · intro h; omega
/-- Is an id there, where it would stand? -/
def fndN (id : Int) (N : List Nd) : Bool := match N[loN id N]? with
  | some g => g.id == id
  | none => false
theorem cmpI_lt (x y : Int) : Lib.compareInt x y < 0 ↔ x < y := by unfold Lib.compareInt; split <;> (try split) <;> omega
theorem cmpI_zero (x y : Int) : Lib.compareInt x y = 0 ↔ x = y := by unfold Lib.compareInt; split <;> (try split) <;> omega

set_option maxHeartbeats 1000000 in
theorem byId_any (n : Nd) (id : Int) (w : World) (hv : ∃ a l c, n.rv = .slice a l c) :
    Calls Tryz.prog 134 #[n.one, .int .i64 id] w fun e w' => e = .returned (.int .i64 (Lib.compareInt n.id id)) ∧ Below w.heap.size w w' := by
  obtain ⟨i, kd, rv, rc⟩ := n
  obtain ⟨a, l, c, rfl⟩ := hv
  have cc := fun w => cmp_any i id w
  simp only
  generalize Lib.compareInt i id = r at cc ⊢
  go_enter Tryz.func134, Tryz.ntmps134
  go_wp2_with (go_at_call 63; refine (cc _).mono ?_; rintro e w' ⟨rfl, rfl⟩)
  go_ret
  exact ⟨rfl, b_alloc (Below.refl _ _) _⟩

/-- A region that draws, whose operations read what is the same in every world that comes after this one: walked once. -/
theorem wp_region_after {P : Program} {X : Type} (F : X → World) {id : Nat} {Q : Exit → Act → World → Prop} {a : Act} {w : World} {l : List Oper} (hm : P.follows .mixedOrders = true) (hB : Region.lexB .any l.toArray = true)
    (hC : ∃ x, { w with drawn := w.drawn + 1 } = F x) (h : wpQuiet P l.toArray (fun w' => ∃ x, w' = F x) (fun a' => ∀ w', (∃ x, w' = F x) → Q .normal a' w') l a) : (Code.region id l.toArray true).wp P Q a w :=
  wp_region_quiet (C := fun w' => ∃ x, w' = F x) hm hB hC (by simpa using h)
/-- The worlds after this one, by a name each. -/
theorem after_all (w : World) : ∃ (X : Type) (_ : Nonempty X) (F : X → World), (∀ x, Below w.heap.size w (F x)) ∧ (∀ W, Below w.heap.size w W → ∃ x, W = F x) :=
  ⟨{ W // Below w.heap.size w W }, ⟨⟨w, Below.refl _ _⟩⟩, Subtype.val, fun x => x.2, fun W h => ⟨⟨W, h⟩, rfl⟩⟩

set_option maxHeartbeats 4000000 in
set_option maxRecDepth 100000 in
theorem searchN_some (b off cap : Nat) (L : List Nd) (id : Int) (w : World) (hb : b < w.heap.size) (hL : LiesN w b off L) (hs : SrtN L) (hn : L.length ≤ 96) :
    Calls Tryz.prog 61 #[.slice (some ⟨b, off, none⟩) L.length cap, .int .i64 id, .func (.func 134) #[] #[]] w fun e w' => e = .returned (.tuple #[.int .i64 (loN id L), .bool (fndN id L)]) ∧ Below w.heap.size w w' := by
  have hlo := loN_le id L
  have HS : Hid (LiesN w b off L ∧ SrtN L) := ⟨hL, hs⟩
  clear hL hs
  go_enter Tryz.func61, Tryz.ntmps61
  go_wp2
  go_loopw [9, 10] (fun i j wr => ∃ p q : Nat, p ≤ loN id L ∧ loN id L ≤ q ∧ q ≤ L.length ∧ i = .int .i64 p ∧ j = .int .i64 q ∧ Below w.heap.size w wr) (fun i j _ => (intOf j).toNat - (intOf i).toNat)
  case atStart => exact ⟨0, L.length, Nat.zero_le _, hlo, Nat.le_refl _, rfl, rfl, Below.refl _ _⟩
  case round =>
    obtain ⟨p, q, h1, h2, h3, rfl, rfl, hBw⟩ := hrel
    have HR : Hid (p ≤ loN id L ∧ loN id L ≤ q ∧ Below w.heap.size w wr) := ⟨h1, h2, hBw⟩
    by_cases hlt : p < q
    · obtain ⟨m, hm⟩ : ∃ m, m = (p + q) / 2 := ⟨_, rfl⟩
      have hml : m < L.length := by omega
      have hmq : m < q := by omega
      have hpm : p ≤ m := by omega
      have hdiv : ((p : Int) + (q : Int)) / 2 = (m : Int) := by omega
      obtain ⟨x, hx⟩ : ∃ x, L[m]? = some x := ⟨L[m], by simp [hml]⟩
      obtain ⟨c0, c1, c2, c3⟩ := HS.out.1 m x hx
      have d0 := (hBw.cell (p := ⟨b, off + m * 3, none⟩) hb).trans c0
      have d1 := (hBw.cell (p := ⟨b, off + m * 3 + 1, none⟩) hb).trans c1
      have d2 := (hBw.cell (p := ⟨b, off + m * 3 + 2, none⟩) hb).trans c2
      have hsp := loN_spec id HS.out.2 m x hx
      rw [← cmpI_lt] at hsp
      have cb := fun W => byId_any x id W c3.sl
      obtain ⟨av, lv, cv, hv⟩ := c3.sl
      obtain ⟨r, hr⟩ : ∃ r, Lib.compareInt x.id id = r := ⟨_, rfl⟩
      rw [hr] at cb hsp
      obtain ⟨xi, xk, xv, xr⟩ := x
      simp only at hv d0 d1 d2 cb
      subst hv
      clear c0 c1 c2 c3 hr hx hm
      by_cases hr0 : r < 0
      · have HM : Hid (m + 1 ≤ loN id L) := hsp.2 hr0
        clear hsp h1 h2
        go_wp2_with fail
        try rw [hdiv]
        clear hdiv
        go_wp2_with (go_at_call 134; refine (cb _).mono ?_; rintro e W2 ⟨rfl, hB2⟩)
        go_roundw
        case rel => exact ⟨m + 1, q, HM.out, HR.out.2.1, h3, by go_num, rfl, on1K HR.out.2.2 hB2 (Nat.le_refl _)⟩
        case measure => simp [intOf]; omega
      · have HM : Hid (loN id L ≤ m) := by
          show _ ≤ _
          have : ¬ m < loN id L := fun h => hr0 (hsp.1 h)
          omega
        clear hsp h1 h2
        go_wp2_with fail
        try rw [hdiv]
        clear hdiv
        go_wp2_with (go_at_call 134; refine (cb _).mono ?_; rintro e W2 ⟨rfl, hB2⟩)
        go_roundw
        case rel => exact ⟨p, m, HR.out.1, HM.out, by omega, rfl, by go_num, on1K HR.out.2.2 hB2 (Nat.le_refl _)⟩
        case measure => simp [intOf]; omega
    · have hpl : p = loN id L := by omega
      by_cases hl : p < L.length
      · obtain ⟨x, hx⟩ : ∃ x, L[p]? = some x := ⟨L[p], by simp [hl]⟩
        obtain ⟨c0, c1, c2, c3⟩ := HS.out.1 p x hx
        have d0 := (hBw.cell (p := ⟨b, off + p * 3, none⟩) hb).trans c0
        have d1 := (hBw.cell (p := ⟨b, off + p * 3 + 1, none⟩) hb).trans c1
        have d2 := (hBw.cell (p := ⟨b, off + p * 3 + 2, none⟩) hb).trans c2
        have cb := fun W => byId_any x id W c3.sl
        obtain ⟨av, lv, cv, hv⟩ := c3.sl
        have hfnd : fndN id L = (Lib.compareInt x.id id == 0) := by
          unfold fndN; rw [← hpl, hx]; simp only
          rw [Bool.eq_iff_iff, beq_iff_eq, beq_iff_eq]; exact (cmpI_zero x.id id).symm
        obtain ⟨r, hr⟩ : ∃ r, Lib.compareInt x.id id = r := ⟨_, rfl⟩
        rw [hr] at cb hfnd
        have HF : Hid (fndN id L = (r == 0) ∧ p = loN id L) := ⟨hfnd, hpl⟩
        have hpi : (p : Int) < (L.length : Int) := by omega
        have hpd : decide ((p : Int) < (L.length : Int)) = true := by simpa using hpi
        obtain ⟨xi, xk, xv, xr⟩ := x
        simp only at hv d0 d1 d2 cb
        subst hv
        clear c0 c1 c2 c3 hr hx hfnd hpl h1 h2
        go_wp2_with (go_at_call 134; refine (cb _).mono ?_; rintro e W2 ⟨rfl, hB2⟩)
        go_ret2
        exact ⟨ret_v (by rw [HF.out.1, ← HF.out.2]; rfl), on1K HR.out.2.2 hB2 (Nat.le_refl _)⟩
      · have hfnd : fndN id L = false := by
          unfold fndN; rw [← hpl, List.getElem?_eq_none (by omega)]
        have HF : Hid (fndN id L = false ∧ p = loN id L) := ⟨hfnd, hpl⟩
        have hpi : ¬ (p : Int) < (L.length : Int) := by omega
        have hpd : decide ((p : Int) < (L.length : Int)) = false := by simpa using hpi
        clear hfnd hpl h1 h2
        go_wp2
        go_ret2
        exact ⟨ret_v (by rw [HF.out.1, ← HF.out.2]; rfl), HR.out.2.2⟩
set_option maxHeartbeats 4000000 in
theorem searchN_nil (ao : Option Addr) (c : Nat) (id : Int) (w : World) :
    Calls Tryz.prog 61 #[.slice ao 0 c, .int .i64 id, .func (.func 134) #[] #[]] w fun e w' => e = .returned (.tuple #[.int .i64 0, .bool false]) ∧ Below w.heap.size w w' := by
  go_enter Tryz.func61, Tryz.ntmps61
  go_wp2
  go_loopw [9, 10] (fun i j wr => i = .int .i64 0 ∧ j = .int .i64 0 ∧ wr = w) (fun i j _ => 0)
  case atStart => exact ⟨rfl, rfl, rfl⟩
  case round =>
    obtain ⟨rfl, rfl, rfl⟩ := hrel
    go_wp2
    go_ret2
    exact ⟨rfl, Below.refl _ _⟩
theorem searchN_any {v : Value} {L : List Nd} {w : World} (h : IsN w v L) (hs : SrtN L) (hn : L.length ≤ 96) (id : Int) :
    Calls Tryz.prog 61 #[v, .int .i64 id, .func (.func 134) #[] #[]] w fun e w' => e = .returned (.tuple #[.int .i64 (loN id L), .bool (fndN id L)]) ∧ Below w.heap.size w w' := by
  obtain ⟨ao, c, rfl, hc, rfl | ⟨b, off, rfl, hb, hl⟩⟩ := h
  · exact searchN_nil ao c id w
  · exact searchN_some b off c L id w hb hl hs hn
set_option maxHeartbeats 1000000 in
theorem findNode_any {v : Value} {L : List Nd} {w : World} (h : IsN w v L) (hs : SrtN L) (hn : L.length ≤ 96) (id : Int) :
    Calls Tryz.prog 114 #[v, .int .i64 id] w fun e w' => e = .returned (.tuple #[.int .i64 (loN id L), .bool (fndN id L)]) ∧ Below w.heap.size w w' := by
  have cs := searchN_any h hs hn id
  obtain ⟨ao, c, rfl, _⟩ := h
  generalize loN id L = lo at cs ⊢
  generalize fndN id L = f at cs ⊢
  go_enter Tryz.func114, Tryz.ntmps114
  go_wp2_with (go_at_call 61; refine cs.mono ?_; rintro e W2 ⟨rfl, hB2⟩)
  go_ret2
  exact ⟨rfl, hB2⟩
end Go.Proofs.YtjnjbajnmclmjaaGreatDoor
