import Derived.Test.YtahamkajkkkjdaaGreatDoorM21
namespace Go.Proofs.YtahamkajkkkjdaaGreatDoor
open Go.RowKit
set_option linter.unusedVariables false
set_option linter.unusedSimpArgs false
theorem insF_mem {all l : List Fd} {f : Fd} (h : insF all f = some l) : ∀ g ∈ l, g ∈ all ∨ g = f := by
  intro g hg
  unfold insF at h
  have two : ∀ {i : Nat}, g ∈ all.take i ++ f :: all.drop i → g ∈ all ∨ g = f := fun hm => by
    rcases List.mem_append.1 hm with h1 | h1
    · exact .inl (List.mem_of_mem_take h1)
    · rcases List.mem_cons.1 h1 with h2 | h2
      · exact .inr h2
      · exact .inl (List.mem_of_mem_drop h2)
  split at h
  · split at h
    · split at h
      · cases h; exact .inl hg
      · cases h
    · cases h; exact two hg
  · cases h; exact two hg
theorem fOf_mem : ∀ (fs all l : List Fd), fOf all fs = some l → ∀ g ∈ l, g ∈ all ∨ g ∈ fs
  | [], all, l, h, g, hg => by cases h; exact .inl hg
  | f :: r, all, l, h, g, hg => by
    unfold fOf at h
    cases hi : insF all f with
    | none => rw [hi] at h; cases h
    | some a =>
      rw [hi] at h
      rcases fOf_mem r a l h g hg with h1 | h1
      · rcases insF_mem hi g h1 with h2 | h2
        · exact .inl h2
        · exact .inr (by simp [h2])
      · exact .inr (by simp [h1])
theorem fields_mem {L : List Kd} {a : Nm} {f : Fd} (h : f ∈ fields L a) : ∃ k ∈ L, f ∈ k.fs := by
  unfold fields at h
  cases hf : fieldsOf (kin L a) with
  | none => rw [hf] at h; simp at h
  | some l =>
    rw [hf] at h
    simp only [Option.getD_some] at h
    rcases fOf_mem _ _ _ hf f h with h1 | h1
    · simp at h1
    · obtain ⟨k, hk, hfk⟩ := List.mem_flatMap.1 h1
      exact ⟨k, List.mem_of_mem_take ((kinOf_sub _).1 k hk), hfk⟩
theorem fold_some (L : List Kd) (B : List Bd) : ∀ (M : List Kd) (F : ByteArray → Option Sh) (s : ByteArray) (h : Sh), (M.foldl (fun F k => upd F (bs k.nm) (shp L B k.nm)) F) s = some h → F s = some h ∨ ∃ k ∈ M, h = shp L B k.nm
  | [], F, s, h, e => .inl e
  | k :: r, F, s, h, e => by
    simp only [List.foldl_cons] at e
    rcases fold_some L B r _ s h e with h1 | ⟨k', hk', h2⟩
    · unfold upd at h1
      split at h1
      · exact .inr ⟨k, by simp, (Option.some.inj h1).symm⟩
      · exact .inl h1
    · exact .inr ⟨k', by simp [hk'], h2⟩
theorem shO_ok {L : List Kd} {B : List Bd} (he : (sErr L B).2 = 0) (hz : SzK L) (hzb : SzB B) : ∀ s h, shO L B L s = some h → ShOk h := by
  intro s h hs
  obtain ⟨hk0, _, hb12⟩ := sErr_good.1 he
  rcases fold_some L B L _ s h hs with h1 | ⟨k, hk, rfl⟩
  · cases h1
  · have hl12 := ksErr_len hk0
    refine ⟨?_, ?_, fun f hf => ?_, ?_, fun x hx => hzb x (List.mem_filter.1 hx).1⟩
    · have h1 := (kinOf_sub (L.take (nmAt L k.nm + 1))).2
      have : (nms (kin L k.nm)).length = (kinOf (L.take (nmAt L k.nm + 1))).length := by simp [nms, kin]
      show (nms (kin L k.nm)).length ≤ 1000
      rw [this]
      simp at h1
      omega
    · show (fields L k.nm).length ≤ 8
      obtain ⟨hG, hn, j, q, hx, hat, hq, hqa⟩ := nmErr_zero (in_nmErr hk0 hk)
      obtain ⟨l, hl1, hl2⟩ := hG.fields hq
      have hkin : kin L k.nm = kinOf (L.take (j + 1)) := by unfold kin; rw [hat]
      have hfl : fields L k.nm = l := by unfold fields; rw [hkin, hl1]; rfl
      rw [hfl]; exact hl2
    · obtain ⟨k', hk', hf'⟩ := fields_mem hf
      exact (hz k' hk').2 f hf'
    · have := List.length_filter_le (fun x : Bd => hasN (nms (kin L k.nm)) x.fr) B
      show (B.filter _).length ≤ 12
      omega
theorem chk_all : ∀ (L : List Pr) (o : Option Pr), chk o L = 0 → ∀ p ∈ L, p.bad = 0
  | [], _, _, p, hp => by simp at hp
  | q :: r, o, h, p, hp => by
    have key : q.bad = 0 ∧ chk (some q) r = 0 := by
      cases o with
      | none =>
        unfold chk at h
        split at h
        · split at h
          · rename_i h1; exact ⟨h1, h⟩
          · rename_i h1; exact absurd h h1
        · rename_i h1; exact absurd h h1
      | some o =>
        unfold chk at h
        split at h
        · split at h
          · rename_i h1
            split at h
            · exact absurd h (by decide)
            · exact ⟨h1, h⟩
          · rename_i h1; exact absurd h h1
        · rename_i h1; exact absurd h h1
    rcases List.mem_cons.1 hp with rfl | hp
    · exact key.1
    · exact chk_all r (some q) key.2 p hp
theorem vErr_in {t n : Int} {l : List UInt8} (h : vErr t n l = 0) : in64 t ∧ in64 n := by
  unfold vErr at h
  split at h
  · rename_i ht
    split at h
    · rename_i hn
      refine ⟨in64_of (by omega) (by omega), ?_⟩
      unfold inR at hn
      split at hn
      · simp at hn; exact in64_of (by omega) (by omega)
      · split at hn
        · simp at hn; exact in64_of (by omega) (by omega)
        · simp at hn; exact in64_of (by omega) (by omega)
    · exact absurd h (by decide)
  · exact absurd h (by decide)
theorem rErr_ok {L : List Pr} (h : rErr L = 0) (hs : Sz L) : VOk L := by
  intro p hp
  have h2 : chk none L = 0 := by
    unfold rErr at h
    split at h
    · exact absurd h (by decide)
    · exact h
  have hb := chk_all L none h2 p hp
  unfold Pr.bad at hb
  obtain ⟨h3, h4⟩ := vErr_in hb
  exact ⟨h3, h4, (hs p hp).2⟩
theorem chkN_all : ∀ (N : List Nd) (o : Option Nd), chkN o N = 0 → ∀ n ∈ N, ∃ o', ndE o' n = 0
  | [], _, _, n, hn => by simp at hn
  | q :: r, o, h, n, hn => by
    unfold chkN at h
    split at h
    · rename_i h1
      rcases List.mem_cons.1 hn with rfl | hn
      · exact ⟨o, h1⟩
      · exact chkN_all r (some q) h n hn
    · rename_i h1; exact absurd h h1
theorem chkT_all : ∀ (T : List Te) (o : Option Te), chkT o T = 0 → ∀ t ∈ T, ∃ o', teE o' t = 0
  | [], _, _, n, hn => by simp at hn
  | q :: r, o, h, n, hn => by
    unfold chkT at h
    split at h
    · rename_i h1
      rcases List.mem_cons.1 hn with rfl | hn
      · exact ⟨o, h1⟩
      · exact chkT_all r (some q) h n hn
    · rename_i h1; exact absurd h h1
theorem idOk_iff {i : Int} (h : idOk i = true) : 1 ≤ i ∧ i ≤ 1000 := by unfold idOk at h; simpa using h
theorem ndE_zero {o : Option Nd} {n : Nd} (h : ndE o n = 0) : idOk n.id = true ∧ n.low o = false ∧ nErr n.kd.data.toList = 0 ∧ rErr n.rc = 0 := by
  unfold ndE at h
  split at h
  · rename_i h1
    split at h
    · exact absurd h (by decide)
    · rename_i h2
      split at h
      · rename_i h3; exact ⟨h1, by simpa using h2, h3, h⟩
      · rename_i h3; exact absurd h h3
  · exact absurd h (by decide)
theorem gErr_parts {N : List Nd} {T : List Te} (h : gErr N T = 0) : N.length ≤ 60 ∧ T.length ≤ 120 ∧ chkN none N = 0 ∧ chkT none T = 0 := by
  unfold gErr at h
  split at h
  · exact absurd h (by decide)
  · rename_i h1
    split at h
    · rename_i h2; exact ⟨by omega, by omega, h2, h⟩
    · rename_i h2; exact absurd h h2
theorem nd_ok {o : Option Nd} {n : Nd} (h : ndE o n = 0) (hz : n.kd.size ≤ maxLen ∧ Sz n.rc ∧ n.rc.length ≤ maxLen) : NdOk n := by
  obtain ⟨h1, _, _, h4⟩ := ndE_zero h
  exact ⟨hz.2.1, h4, rErr_ok h4 hz.2.1, hz.1, idOk_iff h1⟩
theorem nds_ok {N : List Nd} {T : List Te} (h : gErr N T = 0) (hz : SzN N) : ∀ n ∈ N, NdOk n := fun n hn => by
  obtain ⟨o, ho⟩ := chkN_all N none (gErr_parts h).2.2.1 n hn
  exact nd_ok ho (hz n hn)
theorem tes_ok {N : List Nd} {T : List Te} (h : gErr N T = 0) (hz : SzT T) : ∀ t ∈ T, TeOk t := fun t ht => by
  obtain ⟨o, ho⟩ := chkT_all T none (gErr_parts h).2.2.2 t ht
  unfold teE at ho
  split at ho
  · split at ho
    · rename_i h2
      rw [Bool.and_eq_true] at h2
      have h3 := idOk_iff h2.1
      have h4 := idOk_iff h2.2
      exact ⟨hz t ht, in64_of (by omega) (by omega), in64_of (by omega) (by omega)⟩
    · exact absurd ho (by decide)
  · rename_i h2; exact absurd ho h2
def IsSc (w : World) (v : Value) (L : List Kd) (B : List Bd) : Prop := ∃ vk vb, v = .agg #[vk, vb] ∧ IsK w vk L ∧ Parts w L ∧ SzK L ∧ IsB w vb B ∧ SzB B
def IsG (w : World) (v : Value) (N : List Nd) (T : List Te) : Prop := ∃ vn vt, v = .agg #[vn, vt] ∧ IsN w vn N ∧ IsT w vt T ∧ SzN N ∧ SzT T ∧ N.length ≤ maxLen ∧ T.length ≤ maxLen
theorem IsSc.on {w w' : World} {v : Value} {L : List Kd} {B : List Bd} (h : IsSc w v L B) (hB : Below w.heap.size w w') : IsSc w' v L B := by
  obtain ⟨a, b, h0, h1, h2, h3, h4, h5⟩ := h
  exact ⟨a, b, h0, h1.on hB, h2.on hB, h3, h4.on hB, h5⟩
theorem IsG.on {w w' : World} {v : Value} {N : List Nd} {T : List Te} (h : IsG w v N T) (hB : Below w.heap.size w w') : IsG w' v N T := by
  obtain ⟨a, b, h0, h1, h2, h3⟩ := h
  exact ⟨a, b, h0, h1.on hB, h2.on hB, h3⟩
def FaPost (w : World) (e0 : Int) (l : List Ft) (e : Ending) (w' : World) : Prop :=
  ∃ u, e = .returned (.tuple #[u, errV e0]) ∧ (¬ e0 = 0 → u = .slice none 0 0) ∧ (e0 = 0 → OwnX w' w.heap.size u l) ∧ Below w.heap.size w w'
theorem FaPost.bad {w w' : World} {e0 : Int} {l : List Ft} (h : ¬ e0 = 0) (hB : Below w.heap.size w w') : FaPost w e0 l (.returned (.tuple #[.slice none 0 0, errV e0])) w' := ⟨_, rfl, fun _ => rfl, fun h' => absurd h' h, hB⟩
theorem inE_s {L : List Kd} {B : List Bd} {N : List Nd} {T : List Te} (h : ¬ (sErr L B).2 = 0) : inE L B N T = (sErr L B).2 := by unfold inE; rw [if_neg h]
theorem inE_g {L : List Kd} {B : List Bd} {N : List Nd} {T : List Te} (h : (sErr L B).2 = 0) : inE L B N T = gErr N T := by unfold inE; rw [if_pos h]
def Box4 (p q : Nat) (x y a b : Value) (w : World) : Prop := (p < w.heap.size ∧ q < w.heap.size) ∧ (w.cell? ⟨p, 0, none⟩ = some x ∧ w.cell? ⟨p, 1, none⟩ = some y) ∧ (w.cell? ⟨q, 0, none⟩ = some a ∧ w.cell? ⟨q, 1, none⟩ = some b)
theorem Box4.app {p q : Nat} {x y a b : Value} {w w' : World} {r : Option Nat} (h : Box4 p q x y a b w) (hg : w.grownBy w' r) (hr : ∀ g, r = some g → p < g ∧ q < g) : Box4 p q x y a b w' := by
  obtain ⟨⟨h1, h2⟩, ⟨a0, a1⟩, ⟨b0, b1⟩⟩ := h
  have hp : some p ≠ r := fun e => by have := hr p e.symm; omega
  have hq : some q ≠ r := fun e => by have := hr q e.symm; omega
  exact ⟨⟨Nat.lt_of_lt_of_le h1 hg.size, Nat.lt_of_lt_of_le h2 hg.size⟩, ⟨hg.cell a0 hp, hg.cell a1 hp⟩, hg.cell b0 hq, hg.cell b1 hq⟩
theorem Box4.on {p q : Nat} {x y a b : Value} {w w' : World} (h : Box4 p q x y a b w) (hB : Below w.heap.size w w') : Box4 p q x y a b w' := h.app (but_of_below hB none) (fun g hg => by cases hg)
set_option maxHeartbeats 8000000 in
set_option maxRecDepth 100000 in
theorem faults_any {vs vg : Value} {L : List Kd} {B : List Bd} {N : List Nd} {T : List Te} {w : World} (hs : IsSc w vs L B) (hg : IsG w vg N T) : Calls Tryz.prog 78 #[vs, vg] w (FaPost w (inE L B N T) (allF L B N T)) := by
  obtain ⟨vk, vb, rfl, hK, hP, hz, hb, hzb⟩ := hs
  obtain ⟨vn, vt, rfl, hN, hT, zN, zT, lN, lT⟩ := hg
  have HH : Hid (IsN w vn N ∧ IsT w vt T ∧ SzN N ∧ SzT T ∧ N.length ≤ maxLen ∧ T.length ≤ maxLen ∧ SzK L ∧ SzB B) := ⟨hN, hT, zN, zT, lN, lT, hz, hzb⟩
  obtain ⟨ak, ck, rfl, _⟩ := hK.sln
  obtain ⟨ab, cb, rfl, _⟩ := hb.sln
  obtain ⟨an, cn, rfl, _⟩ := hN
  obtain ⟨at', ct, rfl, _⟩ := hT
  have HB0 : Hid (Below w.heap.size w (box2 w #[.slice ak L.length ck, .slice ab B.length cb] 34 #[.slice an N.length cn, .slice at' T.length ct] 67)) := box2_below _ _ _ _ _
  have hz0 : (box2 w #[.slice ak L.length ck, .slice ab B.length cb] 34 #[.slice an N.length cn, .slice at' T.length ct] 67).heap.size = w.heap.size + 2 := box2_size _ _ _ _ _
  have HZ0 : Hid ((box2 w #[.slice ak L.length ck, .slice ab B.length cb] 34 #[.slice an N.length cn, .slice at' T.length ct] 67).heap.size = w.heap.size + 2 ∧ (box2 w #[.slice ak L.length ck, .slice ab B.length cb] 34 #[.slice an N.length cn, .slice at' T.length ct] 67).cell? ⟨w.heap.size + 1, 0, none⟩ = some (.slice an N.length cn) ∧ (box2 w #[.slice ak L.length ck, .slice ab B.length cb] 34 #[.slice an N.length cn, .slice at' T.length ct] 67).cell? ⟨w.heap.size + 1, 1, none⟩ = some (.slice at' T.length ct)) := ⟨hz0, box2_b _ _ _ _ _ rfl, box2_b _ _ _ _ _ rfl⟩
  by_cases he : (sErr L B).2 = 0
  · have c := (planOf_ok (hK.on HB0.out) (hP.on HB0.out) hz (hb.on HB0.out) hzb he)
    have c' : Calls Tryz.prog 119 #[.agg #[.slice ak L.length ck, .slice ab B.length cb]] (box2 w #[.slice ak L.length ck, .slice ab B.length cb] 34 #[.slice an N.length cn, .slice at' T.length ct] 67) fun e w' => ∃ b1 b2, e = .returned (.tuple #[.agg #[.map (some b1), .map (some b2)], .nilIface]) ∧ IsPl w' (.agg #[.map (some b1), .map (some b2)]) (shO L B L) (bdO B) ∧ Below (box2 w #[.slice ak L.length ck, .slice ab B.length cb] 34 #[.slice an N.length cn, .slice at' T.length ct] 67).heap.size (box2 w #[.slice ak L.length ck, .slice ab B.length cb] 34 #[.slice an N.length cn, .slice at' T.length ct] 67) w' := by
      refine c.mono ?_
      rintro e w' (⟨h, _⟩ | ⟨_, h⟩)
      · exact absurd he h
      · exact h
    have HE : Hid ((sErr L B).2 = 0) := he
    clear c hK hP hz hb hzb zN zT lN lT he hz0
    go_enter Tryz.func78, Tryz.ntmps78
    go_wp2_with (go_at_call 119; refine c'.mono ?_; rintro e W1 ⟨b1, b2, rfl, hPl, hB1⟩; refine Hid.out ?_)
    refine Lib.hid ?_
    have hw1 : w.heap.size + 2 ≤ W1.heap.size := by have := hB1.size; rw [HZ0.out.1] at this; exact this
    have hBp : Below W1.heap.size W1 (W1.alloc (.cells #[.map (some b1), .map (some b2)] 246)) := b_allocKC (Below.refl _ _) (Nat.le_refl _) _
    have HB1 : Hid (Below w.heap.size w (W1.alloc (.cells #[.map (some b1), .map (some b2)] 246))) := on1KC (on1KC HB0.out hB1 (Nat.le_refl _)) hBp (Nat.le_refl _)
    have HPl : Hid (IsPl (W1.alloc (.cells #[.map (some b1), .map (some b2)] 246)) (.agg #[.map (some b1), .map (some b2)]) (shO L B L) (bdO B)) := hPl.on hBp
    have hn0 : (W1.alloc (.cells #[.map (some b1), .map (some b2)] 246)).heap[W1.heap.size]? = some (.cells #[.map (some b1), .map (some b2)] 246 (0, 0)) := heap_alloc_new W1 _
    have HX4 : Hid (Box4 W1.heap.size (w.heap.size + 1) (.map (some b1)) (.map (some b2)) (.slice an N.length cn) (.slice at' T.length ct) (W1.alloc (.cells #[.map (some b1), .map (some b2)] 246))) := ⟨⟨by simp, by simp; omega⟩, ⟨cell_atC hn0 rfl, cell_atC hn0 rfl⟩, (hBp.cell (by show w.heap.size + 1 < _; omega)).trans ((hB1.cell (by rw [HZ0.out.1]; simp)).trans HZ0.out.2.1), (hBp.cell (by show w.heap.size + 1 < _; omega)).trans ((hB1.cell (by rw [HZ0.out.1]; simp)).trans HZ0.out.2.2)⟩
    have cg := gcheck_any (HH.out.1.on HB1.out) (HH.out.2.1.on HB1.out) HH.out.2.2.1 HH.out.2.2.2.1 HH.out.2.2.2.2.1 HH.out.2.2.2.2.2.1
    obtain ⟨_, ⟨o0, o1⟩, ⟨o2, o3⟩⟩ := HX4.out
    clear c' hPl hB1 hBp hn0
    by_cases hge : gErr N T = 0
    · rw [hge, errV_0] at cg
      have HG : Hid (gErr N T = 0) := hge
      clear hge
      go_wp2_with (go_at_call 75; refine cg.mono ?_; rintro e W2 ⟨rfl, hB2⟩; refine Hid.out ?_)
      refine Lib.hid ?_
      have HB2 : Hid (Below w.heap.size w W2.drew ∧ Below (W1.alloc (.cells #[.map (some b1), .map (some b2)] 246)).heap.size (W1.alloc (.cells #[.map (some b1), .map (some b2)] 246)) W2.drew) := ⟨b_drew (on1KC HB1.out hB2 (Nat.le_refl _)), b_drew hB2⟩
      have HX5 : Hid (Box4 W1.heap.size (w.heap.size + 1) (.map (some b1)) (.map (some b2)) (.slice an N.length cn) (.slice at' T.length ct) W2.drew) := HX4.out.on HB2.out.2
      have hsz2 : W1.heap.size + 1 ≤ W2.heap.size := by have := hB2.size; rw [World.size_alloc] at this; exact this
      obtain ⟨g60, g120, _, _⟩ := gErr_parts HG.out
      have hH := shO_ok HE.out HH.out.2.2.2.2.2.2.1 HH.out.2.2.2.2.2.2.2
      have hoN := nds_ok HG.out HH.out.2.2.1
      have hoT := tes_ok HG.out HH.out.2.2.2.1
      have HC13 : Hid (Calls Tryz.prog 120 #[.agg #[.map (some b1), .map (some b2)], .agg #[.slice an N.length cn, .slice at' T.length ct]] W2.drew (XPost W2.drew (nodeF (shO L B L) (outO T) N))) := nodeFaults_any (HPl.out.on HB2.out.2) hH (HH.out.1.on HB2.out.1) (HH.out.2.1.on HB2.out.1) hoN hoT g60 g120
      have HC14 : Hid (∀ W3, Below W2.drew.heap.size W2.drew W3 → Calls Tryz.prog 121 #[.agg #[.map (some b1), .map (some b2)], .agg #[.slice an N.length cn, .slice at' T.length ct]] W3 (XPost W3 (tieF (bdO B) (endO (shO L B L) N) T))) := fun W3 h3 => tieFaults_any ((HPl.out.on HB2.out.2).on h3) hH ((HH.out.1.on HB2.out.1).on h3) ((HH.out.2.1.on HB2.out.1).on h3) hoN hoT g60 g120
      have HLn : Hid ((nodeF (shO L B L) (outO T) N).length + (tieF (bdO B) (endO (shO L B L) N) T).length ≤ 100000) := by
        have h1 := nodeS_len hH (outO T) hoN ([], fun _ => none)
        have h2 := tieF_len (bdO B) (endO (shO L B L) N) T
        show _ ≤ _
        unfold nodeF
        simp at h1
        omega
      have HEnd : Hid (∀ W3 W4 u1 v1 w1, Below W2.drew.heap.size W2.drew W3 → Below W3.heap.size W3 W4 → OwnX W3 W2.drew.heap.size u1 (nodeF (shO L B L) (outO T) N) → OwnX w1 W2.drew.heap.size v1 (nodeF (shO L B L) (outO T) N ++ tieF (bdO B) (endO (shO L B L) N) T) → World.grownBy W4 w1 u1.ownBlock → FaPost w (inE L B N T) (allF L B N T) (.returned (.tuple #[v1, .nilIface])) w1) := by
        intro W3 W4 u1 v1 w1 h3 h4 hX1 hX hgr
        have hrow : ∀ g, u1.ownBlock = some g → w.heap.size ≤ g := fun g hg => by have := (World.ownsRow.lt hX1 g hg).1; have h5 : W2.drew.heap.size = W2.heap.size := rfl; omega
        have e0 : inE L B N T = 0 := by rw [inE_g HE.out]; exact HG.out
        have hB : Below w.heap.size w W4 := on1KC (on1KC HB2.out.1 h3 (Nat.le_refl _)) h4 (Nat.le_refl _)
        refine ⟨v1, by rw [e0]; rfl, fun h => absurd e0 h, fun _ => own_mono hX (by have h5 : W2.drew.heap.size = W2.heap.size := rfl; omega), hB.grown hgr (Nat.le_trans (Nat.le_refl _) hB.size) hrow⟩
      have HRow : Hid (∀ W3 u1, OwnX W3 W2.drew.heap.size u1 (nodeF (shO L B L) (outO T) N) → ∀ g, u1.ownBlock = some g → W1.heap.size < g ∧ w.heap.size + 1 < g) := fun W3 u1 hX g hg => by
        have := (World.ownsRow.lt hX g hg).1
        have h5 : W2.drew.heap.size = W2.heap.size := rfl
        omega
      have p0 : W2.cell? ⟨W1.heap.size, 0, none⟩ = some (.map (some b1)) := HX5.out.2.1.1
      have p1 : W2.cell? ⟨W1.heap.size, 1, none⟩ = some (.map (some b2)) := HX5.out.2.1.2
      have p2 : W2.cell? ⟨w.heap.size + 1, 0, none⟩ = some (.slice an N.length cn) := HX5.out.2.2.1
      have p3 : W2.cell? ⟨w.heap.size + 1, 1, none⟩ = some (.slice at' T.length ct) := HX5.out.2.2.2
      clear cg hB2 hH hoN hoT
      go_wp2
      first | (go_region_held_law (fun w' => w'.cell? ⟨W1.heap.size, 0, none⟩ = some (.map (some b1)) ∧ w'.cell? ⟨W1.heap.size, 1, none⟩ = some (.map (some b2)) ∧ w'.cell? ⟨w.heap.size + 1, 0, none⟩ = some (.slice an N.length cn) ∧ w'.cell? ⟨w.heap.size + 1, 1, none⟩ = some (.slice at' T.length ct)) (go_keep) (first | (refine step_appX rfl (.tmp 24) (.tmp 27) rfl (by simp [Act.eval, Act.put]) (by simp [Act.eval, Act.put]) (own_below hX1 hB4) hX2 HLn.out (Nat.le_trans hB3.size hB4.size) ?_; intro v1 w1 hX hgr; have HFin := Lib.hid (HEnd.out W3 W4 u1 v1 w1 hB3 hB4 hX1 hX hgr); obtain ⟨_, ⟨s0, s1⟩, ⟨s2, s3⟩⟩ := (((HX5.out.on hB3).on hB4).app hgr (HRow.out W3 u1 hX1))) | (go_simp; go_at_call 120; refine HC13.out.mono ?_; rintro e W3 ⟨u1, rfl, hX1, hB3⟩; obtain ⟨_, ⟨q0, q1⟩, ⟨q2, q3⟩⟩ := HX5.out.on hB3) | (go_simp; go_at_call 121; refine (HC14.out W3 hB3).mono ?_; rintro e W4 ⟨u2, rfl, hX2, hB4⟩; obtain ⟨_, ⟨r0, r1⟩, ⟨r2, r3⟩⟩ := (HX5.out.on hB3).on hB4))) | fail
      all_goals
        go_wp2
        go_ret2
        exact ret_eq (Post := FaPost w _ _) (by simp) HFin.out
    · rw [errV_ne hge] at cg
      have HG : Hid (¬ gErr N T = 0) := hge
      clear hge
      go_wp2_with (go_at_call 75; refine cg.mono ?_; rintro e W2 ⟨rfl, hB2⟩; refine Hid.out ?_)
      refine Lib.hid ?_
      have HF : Hid (FaPost w (inE L B N T) (allF L B N T) (.returned (.tuple #[.slice none 0 0, .iface 76 (.int .i64 (gErr N T))])) W2) := by
        have := FaPost.bad (l := allF L B N T) (by rw [inE_g HE.out]; exact HG.out) (on1KC HB1.out hB2 (Nat.le_refl _)) (e0 := inE L B N T)
        rw [show errV (inE L B N T) = .iface 76 (.int .i64 (gErr N T)) from by rw [inE_g HE.out, errV_ne HG.out]] at this
        exact this
      clear cg hB2
      go_wp2
      go_ret2
      exact HF.out
  · have c := (planOf_bad (hK.on HB0.out) (hP.on HB0.out) hz (hb.on HB0.out) hzb he)
    have c' : Calls Tryz.prog 119 #[.agg #[.slice ak L.length ck, .slice ab B.length cb]] (box2 w #[.slice ak L.length ck, .slice ab B.length cb] 34 #[.slice an N.length cn, .slice at' T.length ct] 67) fun e w' => e = .returned (.tuple #[.agg #[.map none, .map none], .iface 76 (.int .i64 (sErr L B).2)]) ∧ Below (box2 w #[.slice ak L.length ck, .slice ab B.length cb] 34 #[.slice an N.length cn, .slice at' T.length ct] 67).heap.size (box2 w #[.slice ak L.length ck, .slice ab B.length cb] 34 #[.slice an N.length cn, .slice at' T.length ct] 67) w' := by
      refine c.mono ?_
      rintro e w' (⟨_, h⟩ | ⟨h, _⟩)
      · rw [errV_ne he] at h; exact h
      · exact absurd h he
    have HF : Hid (∀ W1, Below (box2 w #[.slice ak L.length ck, .slice ab B.length cb] 34 #[.slice an N.length cn, .slice at' T.length ct] 67).heap.size (box2 w #[.slice ak L.length ck, .slice ab B.length cb] 34 #[.slice an N.length cn, .slice at' T.length ct] 67) W1 → FaPost w (inE L B N T) (allF L B N T) (.returned (.tuple #[.slice none 0 0, .iface 76 (.int .i64 (sErr L B).2)])) (W1.alloc (.cells #[.map none, .map none] 246))) := fun W1 hB1 => by
      have := FaPost.bad (l := allF L B N T) (by rw [inE_s he]; exact he) (b_allocKC (on1KC HB0.out hB1 (Nat.le_refl _)) (Nat.le_refl _) (.cells #[.map none, .map none] 246)) (e0 := inE L B N T)
      rw [show errV (inE L B N T) = .iface 76 (.int .i64 (sErr L B).2) from by rw [inE_s he, errV_ne he]] at this
      exact this
    clear c hK hP hz hb hzb zN zT lN lT hz0
    have HE : Hid (¬ (sErr L B).2 = 0) := he
    clear he
    go_enter Tryz.func78, Tryz.ntmps78
    go_wp2_with (go_at_call 119; refine c'.mono ?_; rintro e W1 ⟨rfl, hB1⟩; refine Hid.out ?_)
    refine Lib.hid ?_
    have HG := Lib.hid (HF.out W1 hB1)
    clear c' hB1
    go_wp2
    go_ret2
    exact HG.out
def confB (L : List Kd) (B : List Bd) (N : List Nd) (T : List Te) : Bool := decide (inE L B N T = 0) && decide ((allF L B N T).length = 0)
set_option maxHeartbeats 8000000 in
set_option maxRecDepth 100000 in
theorem conforms_any {vs vg : Value} {L : List Kd} {B : List Bd} {N : List Nd} {T : List Te} {w : World} (hs : IsSc w vs L B) (hg : IsG w vg N T) : Calls Tryz.prog 53 #[vs, vg] w fun e w' => e = .returned (.tuple #[.bool (confB L B N T), errV (inE L B N T)]) ∧ Below w.heap.size w w' := by
  obtain ⟨vk, vb, rfl, hK, hP, hz, hb, hzb⟩ := hs
  obtain ⟨vn, vt, rfl, hN, hT, zN, zT, lN, lT⟩ := hg
  obtain ⟨ak, ck, rfl, hl1⟩ := hK.sln
  obtain ⟨ab, cb, rfl, hl2⟩ := hb.sln
  have HN : Hid (IsN w vn N ∧ IsT w vt T) := ⟨hN, hT⟩
  obtain ⟨an, cn, rfl, _⟩ := hN
  obtain ⟨at', ct, rfl, _⟩ := hT
  have HB0 : Hid (Below w.heap.size w (box2 w #[.slice ak L.length ck, .slice ab B.length cb] 34 #[.slice an N.length cn, .slice at' T.length ct] 67)) := box2_below _ _ _ _ _
  have c := faults_any (L := L) (B := B) (N := N) (T := T) (w := (box2 w #[.slice ak L.length ck, .slice ab B.length cb] 34 #[.slice an N.length cn, .slice at' T.length ct] 67)) ⟨_, _, rfl, hK.on HB0.out, hP.on HB0.out, hz, hb.on HB0.out, hzb⟩ ⟨_, _, rfl, HN.out.1.on HB0.out, HN.out.2.on HB0.out, zN, zT, lN, lT⟩
  by_cases he : inE L B N T = 0
  · have c' : Calls Tryz.prog 78 #[.agg #[.slice ak L.length ck, .slice ab B.length cb], .agg #[.slice an N.length cn, .slice at' T.length ct]] (box2 w #[.slice ak L.length ck, .slice ab B.length cb] 34 #[.slice an N.length cn, .slice at' T.length ct] 67) fun e w' => ∃ ao cp, e = .returned (.tuple #[.slice ao (allF L B N T).length cp, .nilIface]) ∧ Below (box2 w #[.slice ak L.length ck, .slice ab B.length cb] 34 #[.slice an N.length cn, .slice at' T.length ct] 67).heap.size (box2 w #[.slice ak L.length ck, .slice ab B.length cb] 34 #[.slice an N.length cn, .slice at' T.length ct] 67) w' := by
      refine c.mono ?_
      rintro e w' ⟨u, rfl, _, h2, h3⟩
      obtain ⟨ao, cp, rfl⟩ := own_sliceC (h2 he)
      exact ⟨ao, cp, by rw [he]; rfl, h3⟩
    have HE : Hid (confB L B N T = (((allF L B N T).length : Int) == 0) ∧ inE L B N T = 0) := by
      refine ⟨?_, he⟩
      unfold confB
      rw [he]
      simp only [decide_true, Bool.true_and]
      by_cases h : (allF L B N T).length = 0
      · rw [h]; rfl
      · have h' : ¬ ((allF L B N T).length : Int) = 0 := by omega
        simp [h, h']
    generalize (allF L B N T).length = m at c' HE
    clear c hK hP hz hb hzb zN zT lN lT he hl1 hl2
    go_enter Tryz.func53, Tryz.ntmps53
    go_wp2_with (go_at_call 78; refine c'.mono ?_; rintro e W1 ⟨ao, cp, rfl, hB1⟩)
    go_ret2
    exact ⟨ret_v (by rw [HE.out.1, HE.out.2]; rfl), on1KC HB0.out hB1 (Nat.le_refl _)⟩
  · have c' : Calls Tryz.prog 78 #[.agg #[.slice ak L.length ck, .slice ab B.length cb], .agg #[.slice an N.length cn, .slice at' T.length ct]] (box2 w #[.slice ak L.length ck, .slice ab B.length cb] 34 #[.slice an N.length cn, .slice at' T.length ct] 67) fun e w' => e = .returned (.tuple #[.slice none 0 0, .iface 76 (.int .i64 (inE L B N T))]) ∧ Below (box2 w #[.slice ak L.length ck, .slice ab B.length cb] 34 #[.slice an N.length cn, .slice at' T.length ct] 67).heap.size (box2 w #[.slice ak L.length ck, .slice ab B.length cb] 34 #[.slice an N.length cn, .slice at' T.length ct] 67) w' := by
      refine c.mono ?_
      rintro e w' ⟨u, rfl, h1, _, h3⟩
      rw [h1 he, errV_ne he]
      exact ⟨rfl, h3⟩
    have HE : Hid (confB L B N T = false ∧ errV (inE L B N T) = .iface 76 (.int .i64 (inE L B N T))) := ⟨by unfold confB; simp [he], errV_ne he⟩
    clear c hK hP hz hb hzb zN zT lN lT he hl1 hl2
    go_enter Tryz.func53, Tryz.ntmps53
    go_wp2_with (go_at_call 78; refine c'.mono ?_; rintro e W1 ⟨rfl, hB1⟩)
    go_ret2
    exact ⟨ret_v (by rw [HE.out.1, HE.out.2]; rfl), on1KC HB0.out hB1 (Nat.le_refl _)⟩
end Go.Proofs.YtahamkajkkkjdaaGreatDoor
