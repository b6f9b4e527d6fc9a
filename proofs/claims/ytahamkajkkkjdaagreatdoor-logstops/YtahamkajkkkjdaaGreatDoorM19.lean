import Derived.Test.YtahamkajkkkjdaaGreatDoorM17
import Derived.Test.YtahamkajkkkjdaaGreatDoorM18
import Derived.Laws.ResultCell
namespace Go.Proofs.YtahamkajkkkjdaaGreatDoor
open Go.RowKit
open Go.Maps (Keyed)
set_option linter.unusedVariables false
set_option linter.unusedSimpArgs false
theorem mapSh_put {κ : Type} [DecidableEq κ] {w : World} {k : TypeId} {enc : κ → Value} {b : Nat} {H : κ → Option Sh} (h : MapSh w k enc b H) (K : Keyed Tryz.prog k) (hinj : ∀ x y, enc x = enc y → x = y) {t : TypeId} (ht : Tryz.prog.underlying t = some (.map k 289)) {x : κ} {l : Lit} (hk : keyOf Tryz.prog k (enc x) = some l) {v : Value} {s : Sh} (hv : IsSh w v s) :
    ∃ w', (Instr.mapUpdate t (.map (some b)) (enc x) v).run Tryz.prog w = .ok () w' ∧ MapSh w' k enc b (upd H x s) ∧ w.grownBy w' (some b) ∧ Kp w w' := by
  obtain ⟨F, h1, h2⟩ := h
  obtain ⟨w', r1, r2, r3⟩ := h1.put K hinj ht hk v
  have hK := but_map h1 r3
  refine ⟨w', r1, ⟨_, r2, fun y => ?_⟩, r3, hK⟩
  unfold upd
  split
  · exact .inr ⟨v, s, rfl, rfl, hv.kp hK⟩
  · exact (h2 y).kp hK
theorem mapBd_put {w : World} {b : Nat} {X : ByteArray → Option Bd} (h : MapBd w b X) {l : Lit} (x : Bd) (hk : keyOf Tryz.prog 9 (encS (bs x.nm)) = some l) :
    ∃ w', (Instr.mapUpdate 244 (.map (some b)) (encS (bs x.nm)) x.one).run Tryz.prog w = .ok () w' ∧ MapBd w' b (upd X (bs x.nm) x) ∧ w.grownBy w' (some b) ∧ Kp w w' := by
  obtain ⟨w', r1, r2, r3⟩ := OwnM.put h keyedS encS_inj Tryz.underlying244 hk x.one
  refine ⟨w', r1, ?_, r3, but_map h r3⟩
  have := upd_map X Bd.one (bs x.nm) x
  unfold MapBd
  rw [← this]
  exact r2
def noMap : Value → Bool
  | .map _ => false
  | _ => true
def Kn (w w' : World) : Prop := w.heap.size ≤ w'.heap.size ∧ ∀ a v, w.cell? a = some v → noMap v = true → w'.cell? a = some v
theorem Kn.trans {a b c : World} (h : Kn a b) (k : Kn b c) : Kn a c := ⟨Nat.le_trans h.1 k.1, fun x v hx hv => k.2 x v (h.2 x v hx hv) hv⟩
theorem Kn.set {w : World} {G : Nat} {x y : Option Nat} {t : TypeId} (h : w.heap[G]? = some (.cells #[.map x, .map y] t (0, 0))) (i : Nat) (u : Value) : Kn w (w.setCell ⟨G, i, none⟩ u) := ⟨by simp, fun a v ha hv => by
  by_cases e : a.block = G
  · unfold World.cell? at ha
    rw [e, h] at ha
    simp only at ha
    rcases hoff : a.off with _ | _ | n
    · rw [hoff] at ha; simp at ha; obtain ⟨_, rfl⟩ := ha; cases hv
    · rw [hoff] at ha; simp at ha; obtain ⟨_, rfl⟩ := ha; cases hv
    · rw [hoff] at ha; simp at ha
  · exact (World.cell?_of_block (heap_setCell_other w ⟨G, i, none⟩ a.block u e)).trans ha⟩
theorem IsS.kn {w w' : World} {v : Value} {l : List Nm} (h : IsS w v l) (hB : Kn w w') : IsS w' v l := by
  rcases h with h | ⟨b, off, cap, hv, hc, hm, hb, hl⟩
  · exact .inl h
  · exact .inr ⟨b, off, cap, hv, hc, hm, Nat.lt_of_lt_of_le hb hB.1, fun k n hn => hB.2 _ _ (hl k n hn) rfl⟩
theorem IsF.kn {w w' : World} {v : Value} {l : List Fd} (h : IsF w v l) (hB : Kn w w') : IsF w' v l := by
  rcases h with h | ⟨b, off, cap, hv, hc, hm, hb, hl⟩
  · exact .inl h
  · refine .inr ⟨b, off, cap, hv, hc, hm, Nat.lt_of_lt_of_le hb hB.1, fun k p hp => ?_⟩
    obtain ⟨c0, c1, c2, c3⟩ := hl k p hp
    exact ⟨hB.2 _ _ c0 rfl, hB.2 _ _ c1 rfl, hB.2 _ _ c2 rfl, hB.2 _ _ c3 rfl⟩
theorem IsB.kn {w w' : World} {v : Value} {l : List Bd} (h : IsB w v l) (hB : Kn w w') : IsB w' v l := by
  rcases h with h | ⟨b, off, cap, hv, hc, hm, hb, hl⟩
  · exact .inl h
  · refine .inr ⟨b, off, cap, hv, hc, hm, Nat.lt_of_lt_of_le hb hB.1, fun k p hp => ?_⟩
    obtain ⟨c0, c1, c2, c3, c4⟩ := hl k p hp
    exact ⟨hB.2 _ _ c0 rfl, hB.2 _ _ c1 rfl, hB.2 _ _ c2 rfl, hB.2 _ _ c3 rfl, hB.2 _ _ c4 rfl⟩
theorem MapSh.kn {κ : Type} {w w' : World} {k : TypeId} {enc : κ → Value} {b : Nat} {H : κ → Option Sh} (h : MapSh w k enc b H) (hb : w'.heap[b]? = w.heap[b]?) (hB : Kn w w') : MapSh w' k enc b H := by
  obtain ⟨F, h1, h2⟩ := h
  refine ⟨F, h1.of_block hb, fun x => ?_⟩
  rcases h2 x with h | ⟨v, s, e1, e2, a, b, c, rfl, f1, f2, f3⟩
  · exact .inl h
  · exact .inr ⟨_, s, e1, e2, a, b, c, rfl, f1.kn hB, f2.kn hB, f3.kn hB⟩
theorem in_nmErr {L : List Kd} (h : (ksErr L).2 = 0) {k : Kd} (hk : k ∈ L) : nmErr L k.nm = 0 := by
  unfold nmErr
  rw [if_pos h, if_neg]
  intro e
  exact idxK_none e k hk rfl
theorem IsK.at {w : World} {v : Value} {L : List Kd} (h : IsK w v L) {k : Nat} {x : Kd} (hx : L[k]? = some x) : ∃ b off c, v = .slice (some ⟨b, off, none⟩) L.length c ∧ b < w.heap.size ∧ w.cell? ⟨b, off + k * 3, none⟩ = some (.string (bs x.nm)) ∧ w.cell? ⟨b, off + k * 3 + 1, none⟩ = some x.vo ∧ w.cell? ⟨b, off + k * 3 + 2, none⟩ = some x.vf := by
  rcases h with ⟨rfl, rfl⟩ | ⟨b, off, cap, rfl, hcap, hm, hb, hl⟩
  · simp at hx
  · exact ⟨b, off, cap, rfl, hb, hl k x hx⟩
abbrev pl0 : Value := .agg #[.map none, .map none]
def PlPost (w : World) (L : List Kd) (B : List Bd) (e : Ending) (w' : World) : Prop :=
  (¬ (sErr L B).2 = 0 ∧ e = .returned (.tuple #[pl0, errV (sErr L B).2]) ∧ Below w.heap.size w w') ∨
  ((sErr L B).2 = 0 ∧ ∃ b1 b2, e = .returned (.tuple #[.agg #[.map (some b1), .map (some b2)], .nilIface]) ∧ IsPl w' (.agg #[.map (some b1), .map (some b2)]) (shO L B L) (bdO B) ∧ Below w.heap.size w w')
def PR1 (W2 : World) (b1 : Nat) (L : List Kd) (B : List Bd) (i : Value) (wr : World) : Prop := ∃ k : Nat, k ≤ L.length ∧ i = .int .i64 k ∧ MapSh wr 9 encS b1 (shO L B (L.take k)) ∧ W2.grownBy wr (some b1)
def PR2 (W2 : World) (b2 : Nat) (B : List Bd) (i : Value) (wr : World) : Prop := ∃ k : Nat, k ≤ B.length ∧ i = .int .i64 k ∧ MapBd wr b2 (bdO (B.take k)) ∧ W2.grownBy wr (some b2)
theorem shO_take {L M : List Kd} {B : List Bd} {k : Nat} {x : Kd} (h : M[k]? = some x) : shO L B (M.take (k + 1)) = upd (shO L B (M.take k)) (bs x.nm) (shp L B x.nm) := foldl_take _ _ h
theorem bdO_take {B : List Bd} {k : Nat} {x : Bd} (h : B[k]? = some x) : bdO (B.take (k + 1)) = upd (bdO (B.take k)) (bs x.nm) x := foldl_take _ _ h
set_option maxHeartbeats 8000000 in
set_option maxRecDepth 100000 in
theorem planOf_bad {vk vb : Value} {L : List Kd} {B : List Bd} {w : World} (hK : IsK w vk L) (hP : Parts w L) (hz : SzK L) (hb : IsB w vb B) (hzb : SzB B) (he : ¬ (sErr L B).2 = 0) : Calls Tryz.prog 119 #[.agg #[vk, vb]] w (PlPost w L B) := by
  obtain ⟨ak, ck, rfl, _⟩ := hK.sln
  obtain ⟨ab, cb, rfl, _⟩ := hb.sln
  have HB0 : Hid (Below w.heap.size w (box2 w #[.slice ak L.length ck, .slice ab B.length cb] 34 #[.map none, .map none] 246)) := box2_below _ _ _ _ _
  have HG0 : Hid ((box2 w #[.slice ak L.length ck, .slice ab B.length cb] 34 #[.map none, .map none] 246).heap[w.heap.size + 1]? = some (.cells #[.map none, .map none] 246 (0, 0))) := by
    show _ = _
    have := heap_alloc_new (w.alloc (.cells #[.slice ak L.length ck, .slice ab B.length cb] 34)) (.cells #[.map none, .map none] 246)
    rwa [World.size_alloc] at this
  have c := scheck_any (hK.on HB0.out) (hP.on HB0.out) hz (hb.on HB0.out) hzb
  have HE : Hid (¬ (sErr L B).2 = 0) := he
  rw [errV_ne he] at c
  have HV : Hid (errV (sErr L B).2 = .iface 76 (.int .i64 (sErr L B).2)) := errV_ne he
  clear hK hP hz hb hzb he
  generalize (sErr L B).1 = nm0 at c
  go_enter Tryz.func119, Tryz.ntmps119
  go_wp2_with (go_at_call 12; refine c.mono ?_; rintro e W1 ⟨rfl, hB1⟩; refine Hid.out ?_)
  refine Lib.hid ?_
  have hz0' : (box2 w #[.slice ak L.length ck, .slice ab B.length cb] 34 #[.map none, .map none] 246).heap.size = w.heap.size + 2 := box2_size _ _ _ _ _
  have hG1 : W1.heap[w.heap.size + 1]? = some (.cells #[.map none, .map none] 246 (0, 0)) := (hB1.block _ (by rw [hz0']; omega)).trans HG0.out
  have HB1 : Hid (Below w.heap.size w W1) := on1KC HB0.out hB1 (Nat.le_refl _)
  have z0 := cell_atC (i := 0) hG1 rfl
  have z1 := cell_atC (i := 1) hG1 rfl
  have k0 := frz_atC (i := 0) hG1
  have k1 := frz_atC (i := 1) hG1
  have h1 := heap_setCell_same W1 (w.heap.size + 1) 0 _ 246 (.map none) hG1
  have h2 := heap_setCell_same _ (w.heap.size + 1) 1 _ 246 (.map none) h1
  have HS : Hid ((W1.setCell ⟨w.heap.size + 1, 0, none⟩ (.map none)).cell? ⟨w.heap.size + 1, 0, none⟩ = some (.map none) ∧ ((W1.setCell ⟨w.heap.size + 1, 0, none⟩ (.map none)).setCell ⟨w.heap.size + 1, 1, none⟩ (.map none)).cell? ⟨w.heap.size + 1, 1, none⟩ = some (.map none) ∧ w.heap.size + 1 < W1.heap.size) := ⟨cell_atC h1 rfl, cell_atC h2 rfl, (Array.getElem?_eq_some_iff.1 hG1).1⟩
  clear c hB1 hG1 h1 h2
  go_wp2
  refine bodyPost_ret (v := .tuple #[pl0, .iface 76 (.int .i64 (sErr L B).2)]) ?_ rfl (.inl ⟨HE.out, by rw [HV.out], (HB1.out.setCell (by simp) _).setCell (by simp) _⟩)
  obtain ⟨s0, s1, s2⟩ := HS.out
  simp [results, Tryz.results119, go_sem, s0, s1, s2]
set_option maxHeartbeats 8000000 in
set_option maxRecDepth 100000 in
theorem planOf_ok {vk vb : Value} {L : List Kd} {B : List Bd} {w : World} (hK : IsK w vk L) (hP : Parts w L) (hz : SzK L) (hb : IsB w vb B) (hzb : SzB B) (he : (sErr L B).2 = 0) : Calls Tryz.prog 119 #[.agg #[vk, vb]] w (PlPost w L B) := by
  obtain ⟨hk0, _, hb12⟩ := sErr_good.1 he
  have hl12 := ksErr_len hk0
  have HH : Hid (IsK w vk L ∧ Parts w L ∧ SzK L ∧ IsB w vb B ∧ SzB B ∧ (ksErr L).2 = 0) := ⟨hK, hP, hz, hb, hzb, hk0⟩
  obtain ⟨ak, ck, rfl, _⟩ := hK.sln
  obtain ⟨ab, cb, rfl, _⟩ := hb.sln
  have HB0 : Hid (Below w.heap.size w (box2 w #[.slice ak L.length ck, .slice ab B.length cb] 34 #[.map none, .map none] 246)) := box2_below _ _ _ _ _
  have HG0 : Hid ((box2 w #[.slice ak L.length ck, .slice ab B.length cb] 34 #[.map none, .map none] 246).heap[w.heap.size + 1]? = some (.cells #[.map none, .map none] 246 (0, 0)) ∧ (box2 w #[.slice ak L.length ck, .slice ab B.length cb] 34 #[.map none, .map none] 246).heap[w.heap.size]? = some (.cells #[.slice ak L.length ck, .slice ab B.length cb] 34 (0, 0))) := by
    refine ⟨?_, (Below.heap_alloc _ _ _ (by simp)).trans (heap_alloc_new w _)⟩
    have := heap_alloc_new (w.alloc (.cells #[.slice ak L.length ck, .slice ab B.length cb] 34)) (.cells #[.map none, .map none] 246)
    rwa [World.size_alloc] at this
  have c := scheck_any (hK.on HB0.out) (hP.on HB0.out) hz (hb.on HB0.out) hzb
  rw [he, errV_0] at c
  have HE : Hid ((sErr L B).2 = 0) := he
  clear hK hP hz hb hzb he hk0
  generalize (sErr L B).1 = nm0 at c
  have hmm := @run_makeMap Tryz.prog
  go_enter Tryz.func119, Tryz.ntmps119
  go_wp2_with (go_at_call 12; refine c.mono ?_; rintro e W1 ⟨rfl, hB1⟩; refine Hid.out ?_)
  refine Lib.hid ?_
  have hz0' : (box2 w #[.slice ak L.length ck, .slice ab B.length cb] 34 #[.map none, .map none] 246).heap.size = w.heap.size + 2 := box2_size _ _ _ _ _
  have hs1 : w.heap.size + 2 ≤ W1.heap.size := by have := hB1.size; rw [hz0'] at this; exact this
  have HW1 : Hid (W1.heap[w.heap.size + 1]? = some (.cells #[.map none, .map none] 246 (0, 0)) ∧ W1.heap[w.heap.size]? = some (.cells #[.slice ak L.length ck, .slice ab B.length cb] 34 (0, 0)) ∧ Below w.heap.size w W1) := ⟨(hB1.block _ (by rw [hz0']; omega)).trans HG0.out.1, (hB1.block _ (by rw [hz0']; omega)).trans HG0.out.2, on1KC HB0.out hB1 (Nat.le_refl _)⟩
  have hB2 : Below W1.heap.size W1 (((W1.alloc (.map #[] 0)).alloc (.map #[] 0)).alloc (.cells #[.map (some W1.heap.size), .map (some (W1.heap.size + 1))] 246)) := b_allocKC (b_allocKC (b_allocKC (Below.refl _ _) (Nat.le_refl _) _) (Nat.le_refl _) _) (Nat.le_refl _) _
  have HW2 : Hid ((((W1.alloc (.map #[] 0)).alloc (.map #[] 0)).alloc (.cells #[.map (some W1.heap.size), .map (some (W1.heap.size + 1))] 246)).heap[w.heap.size + 1]? = some (.cells #[.map none, .map none] 246 (0, 0)) ∧ (((W1.alloc (.map #[] 0)).alloc (.map #[] 0)).alloc (.cells #[.map (some W1.heap.size), .map (some (W1.heap.size + 1))] 246)).heap[w.heap.size]? = some (.cells #[.slice ak L.length ck, .slice ab B.length cb] 34 (0, 0)) ∧ Below w.heap.size w (((W1.alloc (.map #[] 0)).alloc (.map #[] 0)).alloc (.cells #[.map (some W1.heap.size), .map (some (W1.heap.size + 1))] 246)) ∧ (((W1.alloc (.map #[] 0)).alloc (.map #[] 0)).alloc (.cells #[.map (some W1.heap.size), .map (some (W1.heap.size + 1))] 246)).heap[W1.heap.size + 1 + 1]? = some (.cells #[.map (some W1.heap.size), .map (some (W1.heap.size + 1))] 246 (0, 0)) ∧ MapSh (((W1.alloc (.map #[] 0)).alloc (.map #[] 0)).alloc (.cells #[.map (some W1.heap.size), .map (some (W1.heap.size + 1))] 246)) 9 encS W1.heap.size (fun _ => none) ∧ MapBd (((W1.alloc (.map #[] 0)).alloc (.map #[] 0)).alloc (.cells #[.map (some W1.heap.size), .map (some (W1.heap.size + 1))] 246)) (W1.heap.size + 1) (fun _ => none) ∧ (((W1.alloc (.map #[] 0)).alloc (.map #[] 0)).alloc (.cells #[.map (some W1.heap.size), .map (some (W1.heap.size + 1))] 246)).heap.size = W1.heap.size + 3) := by
    refine ⟨(hB2.block _ (by omega)).trans HW1.out.1, (hB2.block _ (by omega)).trans HW1.out.2.1, on1KC HW1.out.2.2 hB2 (Nat.le_refl _), ?_, ⟨fun _ => none, ?_, fun x => .inl ⟨rfl, rfl⟩⟩, ?_, by simp⟩
    · have := heap_alloc_new ((W1.alloc (.map #[] 0)).alloc (.map #[] 0)) (.cells #[.map (some W1.heap.size), .map (some (W1.heap.size + 1))] 246)
      simp only [World.size_alloc] at this
      exact this
    · exact ((OwnM.made W1).of_block (Below.heap_alloc _ _ _ (by simp))).of_block (Below.heap_alloc _ _ _ (by simp; omega))
    · have := OwnM.made (P := Tryz.prog) (k := 9) (enc := encS) (W1.alloc (.map #[] 0))
      rw [World.size_alloc] at this
      exact this.of_block (Below.heap_alloc _ _ _ (by simp))
  clear c hB1 hB2
  have y0 := cell_atC (i := 0) HW2.out.2.1 rfl
  go_wp2
  go_loopw [26] (fun i wr => PR1 (((W1.alloc (.map #[] 0)).alloc (.map #[] 0)).alloc (.cells #[.map (some W1.heap.size), .map (some (W1.heap.size + 1))] 246)) W1.heap.size L B i wr) (fun i _ => L.length - (intOf i).toNat)
  case atStart => exact ⟨0, Nat.zero_le _, rfl, HW2.out.2.2.2.2.1, but_of_below (Below.refl _ _) _⟩
  case round =>
    obtain ⟨k, hk, rfl, hM, hg⟩ := hrel
    have HR : Hid (MapSh wr 9 encS W1.heap.size (shO L B (L.take k)) ∧ World.grownBy (((W1.alloc (.map #[] 0)).alloc (.map #[] 0)).alloc (.cells #[.map (some W1.heap.size), .map (some (W1.heap.size + 1))] 246)) wr (some W1.heap.size)) := ⟨hM, hg⟩
    have hsz : W1.heap.size + 3 ≤ wr.heap.size := by have := hg.size; rw [HW2.out.2.2.2.2.2.2] at this; exact this
    have HW : Hid (Below w.heap.size w wr ∧ wr.heap[w.heap.size + 1]? = some (.cells #[.map none, .map none] 246 (0, 0)) ∧ wr.heap[w.heap.size]? = some (.cells #[.slice ak L.length ck, .slice ab B.length cb] 34 (0, 0)) ∧ wr.heap[W1.heap.size + 1 + 1]? = some (.cells #[.map (some W1.heap.size), .map (some (W1.heap.size + 1))] 246 (0, 0)) ∧ MapBd wr (W1.heap.size + 1) (fun _ => none)) := by
      have hz := HW2.out.2.2.2.2.2.2
      refine ⟨HW2.out.2.2.1.trans (below_but hg (by omega) (by omega)), (hg.block _ (by omega) (by simp; omega)).trans HW2.out.1, (hg.block _ (by omega) (by simp; omega)).trans HW2.out.2.1, (hg.block _ (by omega) (by simp; omega)).trans HW2.out.2.2.2.1, OwnM.of_block HW2.out.2.2.2.2.2.1 (hg.block _ (by omega) (by simp))⟩
    clear hM hg
    by_cases hlt : k < L.length
    · obtain ⟨x, hx⟩ : ∃ x, L[k]? = some x := ⟨L[k], by simp [hlt]⟩
      obtain ⟨b, off, c, hv, hb, e0, e1, e2⟩ := HH.out.1.at hx
      injection hv with hv1 hv2 hv3
      subst hv1 hv3
      clear hv2
      have d0 := (HW.out.1.cell (p := ⟨b, off + k * 3, none⟩) hb).trans e0
      have d1 := (HW.out.1.cell (p := ⟨b, off + k * 3 + 1, none⟩) hb).trans e1
      have d2 := (HW.out.1.cell (p := ⟨b, off + k * 3 + 2, none⟩) hb).trans e2
      have hxm := List.mem_of_getElem? hx
      have hT := shO_take (L := L) (B := B) hx
      obtain ⟨p1, p2⟩ := HH.out.2.1 x hxm
      have hnm := in_nmErr HH.out.2.2.2.2.2 hxm
      obtain ⟨kl, hkl⟩ := keyS (s := bs x.nm) (by rw [bs_size]; exact (HH.out.2.2.1 x hxm).1)
      obtain ⟨ao, co, ho, _⟩ := p1.sln
      obtain ⟨af, cf, hf, _⟩ := p2.sln
      obtain ⟨nm, of, fs, vo, vf⟩ := x
      simp only at d0 d1 d2 hT hnm hkl ho hf
      subst ho
      subst hf
      have hB3 : Below wr.heap.size wr (wr.alloc (.cells #[.string (bs nm), .slice ao of.length co, .slice af fs.length cf] 30)).drew := b_drew (b_allocKC (Below.refl _ _) (Nat.le_refl _) _)
      have HB3 : Hid (Below wr.heap.size wr (wr.alloc (.cells #[.string (bs nm), .slice ao of.length co, .slice af fs.length cf] 30)).drew) := hB3
      have c17 := shapeOf_any (a := nm) ((HH.out.1.on HW.out.1).on hB3) ((HH.out.2.1.on HW.out.1).on hB3) HH.out.2.2.1 ((HH.out.2.2.2.1.on HW.out.1).on hB3) hb12 hl12 hnm
      have HC17 : Hid (Calls Tryz.prog 154 #[.agg #[.slice (some ⟨b, off, none⟩) L.length ck, .slice ab B.length cb], .string (bs nm)] (wr.alloc (.cells #[.string (bs nm), .slice ao of.length co, .slice af fs.length cf] 30)).drew (ShPost (wr.alloc (.cells #[.string (bs nm), .slice ao of.length co, .slice af fs.length cf] 30)).drew (shp L B nm))) := c17
      have HF : Hid (∀ W4 v, IsSh W4 v (shp L B nm) → Below (wr.alloc (.cells #[.string (bs nm), .slice ao of.length co, .slice af fs.length cf] 30)).drew.heap.size (wr.alloc (.cells #[.string (bs nm), .slice ao of.length co, .slice af fs.length cf] 30)).drew W4 → ∃ w5, (Instr.mapUpdate 243 (.map (some W1.heap.size)) (.string (bs nm)) v).run Tryz.prog W4 = .ok () w5 ∧ PR1 (((W1.alloc (.map #[] 0)).alloc (.map #[] 0)).alloc (.cells #[.map (some W1.heap.size), .map (some (W1.heap.size + 1))] 246)) W1.heap.size L B (.int .i64 ((k : Int) + 1)) w5 ∧ Kp W4 w5) := fun W4 v hS hB4 => by
        have hB5 : Below wr.heap.size wr W4 := on1KC hB3 hB4 (Nat.le_refl _)
        obtain ⟨w5, r1, r2, r3, r4⟩ := mapSh_put (HR.out.1.on hB5) keyedS encS_inj Tryz.underlying243 hkl hS
        exact ⟨w5, r1, ⟨k + 1, hlt, by simp, by rw [hT]; exact r2, but_trans (but_below HR.out.2 hB5) r3⟩, r4⟩
      have hp0 := cell_atC (i := 0) HW.out.2.2.2.1 rfl
      have hq0 := cell_atC (i := 0) HW.out.2.2.1 rfl
      have hq1 := cell_atC (i := 1) HW.out.2.2.1 rfl
      have HX : Hid ((wr.alloc (.cells #[.string (bs nm), .slice ao of.length co, .slice af fs.length cf] 30)).drew.cell? ⟨W1.heap.size + 1 + 1, 0, none⟩ = some (.map (some W1.heap.size)) ∧ (wr.alloc (.cells #[.string (bs nm), .slice ao of.length co, .slice af fs.length cf] 30)).drew.cell? ⟨wr.heap.size, 0, none⟩ = some (.string (bs nm)) ∧ (wr.alloc (.cells #[.string (bs nm), .slice ao of.length co, .slice af fs.length cf] 30)).drew.cell? ⟨w.heap.size, 0, none⟩ = some (.slice (some ⟨b, off, none⟩) L.length ck) ∧ (wr.alloc (.cells #[.string (bs nm), .slice ao of.length co, .slice af fs.length cf] 30)).drew.cell? ⟨w.heap.size, 1, none⟩ = some (.slice ab B.length cb)) := ⟨(hB3.cell (by show W1.heap.size + 1 + 1 < _; omega)).trans hp0, two_new _ _ _ rfl, (hB3.cell (by show w.heap.size < _; omega)).trans hq0, (hB3.cell (by show w.heap.size < _; omega)).trans hq1⟩
      have o0 : (wr.alloc (.cells #[.string (bs nm), .slice ao of.length co, .slice af fs.length cf] 30)).cell? ⟨W1.heap.size + 1 + 1, 0, none⟩ = some (.map (some W1.heap.size)) := HX.out.1
      have o1 : (wr.alloc (.cells #[.string (bs nm), .slice ao of.length co, .slice af fs.length cf] 30)).cell? ⟨wr.heap.size, 0, none⟩ = some (.string (bs nm)) := HX.out.2.1
      have o2 : (wr.alloc (.cells #[.string (bs nm), .slice ao of.length co, .slice af fs.length cf] 30)).cell? ⟨w.heap.size, 0, none⟩ = some (.slice (some ⟨b, off, none⟩) L.length ck) := HX.out.2.2.1
      have o3 : (wr.alloc (.cells #[.string (bs nm), .slice ao of.length co, .slice af fs.length cf] 30)).cell? ⟨w.heap.size, 1, none⟩ = some (.slice ab B.length cb) := HX.out.2.2.2
      have HKc : Hid (∀ W4, Kp (wr.alloc (.cells #[.string (bs nm), .slice ao of.length co, .slice af fs.length cf] 30)).drew W4 → W4.cell? ⟨W1.heap.size + 1 + 1, 0, none⟩ = some (.map (some W1.heap.size)) ∧ W4.cell? ⟨wr.heap.size, 0, none⟩ = some (.string (bs nm)) ∧ W4.cell? ⟨w.heap.size, 0, none⟩ = some (.slice (some ⟨b, off, none⟩) L.length ck) ∧ W4.cell? ⟨w.heap.size, 1, none⟩ = some (.slice ab B.length cb)) := fun W4 hK => ⟨hK.2 _ _ HX.out.1, hK.2 _ _ HX.out.2.1, hK.2 _ _ HX.out.2.2.1, hK.2 _ _ HX.out.2.2.2⟩
      have hbn : ¬ b = wr.heap.size := by have := HW.out.1.size; omega
      clear hB3 c17 e0 e1 e2 hx hT hkl hnm hxm p1 p2 hp0 hq0 hq1
      go_wp2
      first | (go_region_held_law (fun w' => w'.cell? ⟨W1.heap.size + 1 + 1, 0, none⟩ = some (.map (some W1.heap.size)) ∧ w'.cell? ⟨wr.heap.size, 0, none⟩ = some (.string (bs nm)) ∧ w'.cell? ⟨w.heap.size, 0, none⟩ = some (.slice (some ⟨b, off, none⟩) L.length ck) ∧ w'.cell? ⟨w.heap.size, 1, none⟩ = some (.slice ab B.length cb)) (go_keep) (first | (go_simp; go_at_call 154; refine HC17.out.mono ?_; rintro e W4 ⟨v4, rfl, hS4, _, hB4⟩; obtain ⟨p0, p1, p2, p3⟩ := HKc.out W4 (Kp.of_below hB4); obtain ⟨w5, hrun, hN5, hK5⟩ := HF.out W4 v4 hS4 hB4; have HN5 := Lib.hid hN5; obtain ⟨q0, q1, q2, q3⟩ := HKc.out w5 ((Kp.of_below hB4).trans hK5); clear hN5))) | fail
      all_goals
        go_wp2
        refine ⟨?_, ?_⟩
        · first | exact HN5.out | ((repeat apply Exists.intro); refine ⟨?_, rfl⟩; exact HN5.out)
        · simp [intOf]
          try omega
    · obtain rfl : k = L.length := by omega
      rw [List.take_length] at HR
      obtain ⟨W5, hW5⟩ : ∃ W5, W5 = wr := ⟨wr, rfl⟩
      subst hW5
      have y1 := cell_atC (i := 1) HW.out.2.2.1 rfl
      clear hlt
      go_wp2
      go_loopw [42] (fun i wr => PR2 W5 (W1.heap.size + 1) B i wr) (fun i _ => B.length - (intOf i).toNat)
      case atStart => exact ⟨0, Nat.zero_le _, rfl, HW.out.2.2.2.2, but_of_below (Below.refl _ _) _⟩
      case round =>
        obtain ⟨k, hk, rfl, hM, hg⟩ := hrel
        have HR2 : Hid (MapBd wr (W1.heap.size + 1) (bdO (B.take k)) ∧ W5.grownBy wr (some (W1.heap.size + 1)) ∧ Kp W5 wr) := ⟨hM, hg, but_map HW.out.2.2.2.2 hg⟩
        have hs5 : W5.heap.size ≤ wr.heap.size := hg.size
        have HV : Hid (Below w.heap.size w wr ∧ wr.heap[w.heap.size + 1]? = some (.cells #[.map none, .map none] 246 (0, 0)) ∧ wr.heap[W1.heap.size + 1 + 1]? = some (.cells #[.map (some W1.heap.size), .map (some (W1.heap.size + 1))] 246 (0, 0)) ∧ MapSh wr 9 encS W1.heap.size (shO L B L)) :=
          ⟨HW.out.1.trans (below_but hg (by omega) (by omega)), (hg.block _ (by omega) (by simp; omega)).trans HW.out.2.1, (hg.block _ (by omega) (by simp)).trans HW.out.2.2.2.1, HR.out.1.kp (hg.block _ (by omega) (by simp)) HR2.out.2.2⟩
        have g0 := cell_atC (i := 0) HV.out.2.2.1 rfl
        have g1 := cell_atC (i := 1) HV.out.2.2.1 rfl
        clear hM hg
        by_cases hlt : k < B.length
        · obtain ⟨x, hx⟩ : ∃ x, B[k]? = some x := ⟨B[k], by simp [hlt]⟩
          obtain ⟨b, off, c, hv, hb, e0, e1, e2, e3, e4⟩ := HH.out.2.2.2.1.at hx
          injection hv with hv1 hv2 hv3
          subst hv1 hv3
          clear hv2
          have d0 := (HV.out.1.cell (p := ⟨b, off + k * 5, none⟩) hb).trans e0
          have d1 := (HV.out.1.cell (p := ⟨b, off + k * 5 + 1, none⟩) hb).trans e1
          have d2 := (HV.out.1.cell (p := ⟨b, off + k * 5 + 2, none⟩) hb).trans e2
          have d3 := (HV.out.1.cell (p := ⟨b, off + k * 5 + 3, none⟩) hb).trans e3
          have d4 := (HV.out.1.cell (p := ⟨b, off + k * 5 + 4, none⟩) hb).trans e4
          obtain ⟨kl, hkl⟩ := keyS (s := bs x.nm) (by rw [bs_size]; exact HH.out.2.2.2.2.1 x (List.mem_of_getElem? hx))
          have hB6 : Below wr.heap.size wr (wr.alloc (.cells #[.string (bs x.nm), .string (bs x.fr), .string (bs x.tt), .int .i64 x.mn, .int .i64 x.mx] 54)) := b_allocKC (Below.refl _ _) (Nat.le_refl _) _
          obtain ⟨w7, hrun, hput, hgr, _⟩ := mapBd_put (HR2.out.1.on hB6) x hkl
          have HN : Hid (PR2 W5 (W1.heap.size + 1) B (.int .i64 ((k : Int) + 1)) w7) := ⟨k + 1, hlt, by simp, by rw [bdO_take hx]; exact hput, but_trans (but_below HR2.out.2.1 hB6) hgr⟩
          have G1 : (wr.alloc (.cells #[.string (bs x.nm), .string (bs x.fr), .string (bs x.tt), .int .i64 x.mn, .int .i64 x.mx] 54)).cell? ⟨W1.heap.size + 1 + 1, 1, none⟩ = some (.map (some (W1.heap.size + 1))) := (hB6.cell (by show W1.heap.size + 1 + 1 < _; omega)).trans g1
          simp only [encS] at hrun
          have hbn : ¬ b = wr.heap.size := by have := HV.out.1.size; omega
          clear hB6 hput hgr e0 e1 e2 e3 e4 hx hkl
          go_wp2
          go_roundw
          case rel => exact HN.out
          case measure => simp [intOf]; omega
        · obtain rfl : k = B.length := by omega
          rw [List.take_length] at HR2
          have z0 := cell_atC (i := 0) HV.out.2.1 rfl
          have z1 := cell_atC (i := 1) HV.out.2.1 rfl
          have k0 := frz_atC (i := 0) HV.out.2.1
          have k1 := frz_atC (i := 1) HV.out.2.1
          have h1 := heap_setCell_same wr (w.heap.size + 1) 0 _ 246 (.map (some W1.heap.size)) HV.out.2.1
          have h2 := heap_setCell_same _ (w.heap.size + 1) 1 _ 246 (.map (some (W1.heap.size + 1))) h1
          have HS : Hid ((wr.setCell ⟨w.heap.size + 1, 0, none⟩ (.map (some W1.heap.size))).cell? ⟨w.heap.size + 1, 0, none⟩ = some (.map (some W1.heap.size)) ∧ ((wr.setCell ⟨w.heap.size + 1, 0, none⟩ (.map (some W1.heap.size))).setCell ⟨w.heap.size + 1, 1, none⟩ (.map (some (W1.heap.size + 1)))).cell? ⟨w.heap.size + 1, 1, none⟩ = some (.map (some (W1.heap.size + 1))) ∧ w.heap.size + 1 < wr.heap.size) := ⟨cell_atC h1 rfl, cell_atC h2 rfl, (Array.getElem?_eq_some_iff.1 HV.out.2.1).1⟩
          have HP : Hid (PlPost w L B (.returned (.tuple #[.agg #[(.map (some W1.heap.size)), (.map (some (W1.heap.size + 1)))], .nilIface])) ((wr.setCell ⟨w.heap.size + 1, 0, none⟩ (.map (some W1.heap.size))).setCell ⟨w.heap.size + 1, 1, none⟩ (.map (some (W1.heap.size + 1))))) := by
            refine .inr ⟨HE.out, _, _, rfl, ⟨_, _, rfl, ?_, ?_⟩, (HV.out.1.setCell (by simp) _).setCell (by simp) _⟩
            · have hk : Kn wr ((wr.setCell ⟨w.heap.size + 1, 0, none⟩ (.map (some W1.heap.size))).setCell ⟨w.heap.size + 1, 1, none⟩ (.map (some (W1.heap.size + 1)))) := (Kn.set HV.out.2.1 0 (.map (some W1.heap.size))).trans (Kn.set h1 1 (.map (some (W1.heap.size + 1))))
              exact HV.out.2.2.2.kn ((heap_setCell_other _ _ _ _ (by simp; omega)).trans (heap_setCell_other _ _ _ _ (by simp; omega))) hk
            · refine OwnM.of_block HR2.out.1 ?_
              exact (heap_setCell_other _ _ _ _ (by simp; omega)).trans (heap_setCell_other _ _ _ _ (by simp; omega))
          clear hlt h1 h2
          go_wp2
          refine bodyPost_ret (v := .tuple #[.agg #[(.map (some W1.heap.size)), (.map (some (W1.heap.size + 1)))], .nilIface]) ?_ rfl HP.out
          obtain ⟨s0, s1, s2⟩ := HS.out
          simp [results, Tryz.results119, go_sem, s0, s1, s2]
end Go.Proofs.YtahamkajkkkjdaaGreatDoor
