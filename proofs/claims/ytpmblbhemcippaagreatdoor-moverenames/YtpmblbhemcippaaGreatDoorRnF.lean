/-
  What the calls of the law MoveRenames give.
-/
import Derived.Test.YtpmblbhemcippaaGreatDoorM48
import Derived.Test.YtpmblbhemcippaaGreatDoorM49
import Derived.Test.YtpmblbhemcippaaGreatDoorM04
import Derived.Test.YtpmblbhemcippaaGreatDoorM32
import Derived.Test.YtpmblbhemcippaaGreatDoorM44w
namespace Go.Proofs.YtpmblbhemcippaaGreatDoor
open Go.RowKit
set_option linter.unusedVariables false
set_option linter.unusedSimpArgs false

def csR (o t : Nm) : Array Value := #[.int .i64 7, .string ⟨#[97]⟩, .string ⟨#[]⟩, .slice none 0 0, .slice none 0 0, .string ⟨#[]⟩, .string ⟨#[]⟩, .string ⟨#[]⟩, .int .i64 0, .int .i64 0, .string (bs o), .int .i64 0, .bool false, .bool false, .int .i64 0, .int .i64 0, .string ⟨#[]⟩, .string (bs t)]
theorem one_n (o t : Nm) : (chN o t).one = .agg (csR o t) := rfl
theorem chIs_n (w : World) (o t : Nm) : ChIs w (chN o t) := ⟨.inl ⟨none, 0, rfl, rfl, Nat.zero_le _, fun _ => rfl⟩, .inl ⟨none, 0, rfl, rfl, Nat.zero_le _, fun _ => rfl⟩⟩
theorem max1 : (1 : Nat) ≤ maxLen := by decide
theorem chSz_n {o t : Nm} (ho : o.length ≤ maxLen) (ht : t.length ≤ maxLen) : ChSz (chN o t) :=
  ⟨⟨Nat.zero_le _, fun f hf => by cases hf⟩, ⟨Nat.zero_le _, Nat.zero_le _⟩, Nat.zero_le _, ho, Nat.zero_le _, ht⟩
theorem nErr_le {l : Nm} (h : nErr l = 0) : l.length ≤ 8 := by
  unfold nErr at h
  split at h
  · exact absurd h (by decide)
  · split at h
    · exact absurd h (by decide)
    · omega
theorem nErr_max {l : Nm} (h : nErr l = 0) : l.length ≤ maxLen := by
  have := nErr_le h
  unfold maxLen
  omega
def Sc1 (w : World) (nm : Nm) (vk vb : Value) : Prop := ∃ vo vf, IsK w vk [kdN nm vo vf] ∧ Parts w [kdN nm vo vf] ∧ IsB w vb [bdN]
theorem Sc1.on {w w' : World} {nm : Nm} {vk vb : Value} (h : Sc1 w nm vk vb) (hB : Below w.heap.size w w') : Sc1 w' nm vk vb := by
  obtain ⟨vo, vf, h1, h2, h3⟩ := h
  exact ⟨vo, vf, h1.on hB, h2.on hB, h3.on hB⟩
theorem szK_n {nm : Nm} (h : nm.length ≤ maxLen) (vo vf : Value) : SzK [kdN nm vo vf] := fun k hk => by
  obtain rfl := List.mem_singleton.1 hk
  refine ⟨max1, fun f hf => ?_⟩
  obtain rfl := List.mem_singleton.1 hf
  exact h
theorem szB_n : SzB [bdN] := fun x hx => by
  obtain rfl := List.mem_singleton.1 hx
  exact max1
theorem szN_n {nm : Nm} (h : nm.length ≤ maxLen) {N : List Nd} (hN : RowPn nm N) : SzN N := fun n hn => by
  obtain ⟨j, hj⟩ := List.getElem?_of_mem hn
  obtain ⟨_, h2, h3⟩ := hN j n hj
  refine ⟨by rw [h2]; exact max1, fun p hp => ?_, by rw [h3]; exact max1⟩
  rw [h3] at hp
  obtain rfl := List.mem_singleton.1 hp
  exact ⟨by show (bs nm).size ≤ maxLen; rw [bs_size]; exact h, Nat.zero_le _⟩
theorem sim_any (w : World) : Calls Tryz.prog 6 #[.int .i64 (-1)] w fun e w' => ∃ a1 c1 a2 c2, e = .returned (.agg #[.slice a1 1 c1, .slice a2 1 c2]) ∧ Sc1 w' [107] (.slice a1 1 c1) (.slice a2 1 c2) ∧ Below w.heap.size w w' := by
  refine (simple_sc (-1) w).mono ?_
  rintro e w' ⟨vs, vo, vf, rfl, ⟨vk, vb, rfl, hK, hP, _, hb, _⟩, hB⟩
  obtain ⟨a1, c1, e1, _⟩ := hK.sln
  obtain ⟨a2, c2, e2, _⟩ := hb.sln
  obtain rfl : vk = .slice a1 1 c1 := e1
  obtain rfl : vb = .slice a2 1 c2 := e2
  exact ⟨a1, c1, a2, c2, rfl, ⟨vo, vf, hK, hP, hb⟩, hB⟩
def Rn1 (w : World) (t : Nm) (n : Nat) (g1 g2 : Value) : Prop := ∃ base X, List.length X = n ∧ RowPn t X ∧ OwnNs w base g1 X ∧ OwnTs w base g2 []
theorem Rn1.kt {w w' : World} {t : Nm} {n : Nat} {g1 g2 : Value} (h : Rn1 w t n g1 g2) (k1 : Kt 57 w w') (k2 : Kt 62 w w') (k3 : Kt 64 w w') : Rn1 w' t n g1 g2 := by
  obtain ⟨base, X, h1, h2, h3, h4⟩ := h
  exact ⟨base, X, h1, h2, h3.kt k1 k2, h4.kt k3⟩
theorem Rn1.on {w w' : World} {t : Nm} {n : Nat} {g1 g2 : Value} (h : Rn1 w t n g1 g2) (hB : Below w.heap.size w w') : Rn1 w' t n g1 g2 := h.kt (.of_below hB) (.of_below hB) (.of_below hB)
theorem Rn1.len {w : World} {t : Nm} {n l1 l2 : Nat} {b1 b2 : Option Addr} {d1 d2 : Nat} (h : Rn1 w t n (.slice b1 l1 d1) (.slice b2 l2 d2)) : l1 = n ∧ l2 = 0 := by
  obtain ⟨base, X, h1, h2, h3, h4⟩ := h
  obtain ⟨y1, y2, e1, _⟩ := h3.isN
  injection e1 with _ q1 _
  obtain ⟨z1, z2, e2, _⟩ := h4.isT
  injection e2 with _ q2 _
  exact ⟨q1.trans h1, q2⟩
def Sc2 (w : World) (nm : Nm) (vk vb : Value) : Prop := ∃ base v1 v2, OwnKs w base vk [kdN nm v1 v2] ∧ OwnBs w base vb [bdN]
theorem Sc2.kt {w w' : World} {nm : Nm} {vk vb : Value} (h : Sc2 w nm vk vb) (k1 : Kt 32 w w') (k2 : Kt 9 w w') (k3 : Kt 28 w w') (k4 : Kt 34 w w') : Sc2 w' nm vk vb := by
  obtain ⟨base, v1, v2, h1, h2⟩ := h
  exact ⟨base, v1, v2, h1.kt k1 k2 k3, own_kt h2 k4⟩
theorem Sc2.on {w w' : World} {nm : Nm} {vk vb : Value} (h : Sc2 w nm vk vb) (hB : Below w.heap.size w w') : Sc2 w' nm vk vb := h.kt (.of_below hB) (.of_below hB) (.of_below hB) (.of_below hB)
theorem Sc2.sc {w : World} {nm : Nm} {vk vb : Value} (h : Sc2 w nm vk vb) : Sc1 w nm vk vb := by
  obtain ⟨base, v1, v2, h1, h2⟩ := h
  exact ⟨v1, v2, h1.isK, h1.parts, OwnBs.isB h2⟩
abbrev set2 (w : World) (b : Nat) (v0 v1 : Value) : World := (w.setCell ⟨b, 0, none⟩ v0).setCell ⟨b, 1, none⟩ v1
theorem set2_heap {w : World} {b : Nat} {x0 x1 : Value} {t : TypeId} (h : w.heap[b]? = some (.cells #[x0, x1] t (0, 0))) (v0 v1 : Value) : (set2 w b v0 v1).heap[b]? = some (.cells #[v0, v1] t (0, 0)) :=
  heap_setCell_same _ _ 1 _ t _ (heap_setCell_same w _ 0 _ t _ h)
theorem set2_kt {w : World} {b : Nat} {t t' : TypeId} (h : Ty w b t') (hne : t' ≠ t) (v0 v1 : Value) : Kt t w (set2 w b v0 v1) := ((Kt.refl _ _).ty h hne _ _).ty (h.set _ _ _) hne _ _
theorem set2_below {B b : Nat} {a w : World} (h : Below B a w) (hb : B ≤ b) (v0 v1 : Value) : Below B a (set2 w b v0 v1) := (h.setCell hb _).setCell hb _
theorem Rn1.st2 {w : World} {t : Nm} {n b : Nat} {g1 g2 x0 x1 : Value} (h : Rn1 w t n g1 g2) (hb : w.heap[b]? = some (.cells #[x0, x1] 25 (0, 0))) (v0 v1 : Value) : Rn1 (set2 w b v0 v1) t n g1 g2 :=
  h.kt (set2_kt ⟨_, hb⟩ (by decide) _ _) (set2_kt ⟨_, hb⟩ (by decide) _ _) (set2_kt ⟨_, hb⟩ (by decide) _ _)
theorem Sc2.st2 {w : World} {nm : Nm} {b : Nat} {vk vb x0 x1 : Value} (h : Sc2 w nm vk vb) (hb : w.heap[b]? = some (.cells #[x0, x1] 46 (0, 0))) (v0 v1 : Value) : Sc2 (set2 w b v0 v1) nm vk vb :=
  h.kt (set2_kt ⟨_, hb⟩ (by decide) _ _) (set2_kt ⟨_, hb⟩ (by decide) _ _) (set2_kt ⟨_, hb⟩ (by decide) _ _) (set2_kt ⟨_, hb⟩ (by decide) _ _)
def rnE (o t : Nm) : Int := if nErr t = 0 then (if o = t then 7 else 0) else 2
theorem ren_any {o t : Nm} (ho : nErr o = 0) (ht : t.length ≤ maxLen) {W : World} {a1 a2 a3 a4 : Option Addr} {c1 c2 c3 c4 n : Nat} (hS : Sc1 W o (.slice a1 1 c1) (.slice a2 1 c2)) {N : List Nd} (hN : IsN W (.slice a3 n c3) N) (hR : RowPn o N) (hl : N.length ≤ 60) (hT : IsT W (.slice a4 0 c4) []) :
    Calls Tryz.prog 5 #[.agg #[.slice a1 1 c1, .slice a2 1 c2], .agg (csR o t), .agg #[.slice a3 n c3, .slice a4 0 c4]] W fun e w' => ∃ b1 l1 d1 b2 l2 d2, e = .returned (.tuple #[.agg #[.slice b1 l1 d1, .slice b2 l2 d2], errV (rnE o t)]) ∧ (nErr t = 0 → ¬ o = t → Rn1 w' t N.length (.slice b1 l1 d1) (.slice b2 l2 d2)) ∧ Below W.heap.size W w' := by
  obtain ⟨vo, vf, hK, hP, hb⟩ := hS
  have hom := nErr_max ho
  have hlm : N.length ≤ maxLen := by unfold maxLen; omega
  rw [← one_n]
  refine (graph_any (chN o t) hK hP (szK_n hom vo vf) hb szB_n (chIs_n W o t) (chSz_n hom ht) hN hT (szN_n hom hR) (fun x hx => by cases hx) hlm (Nat.zero_le _)).mono ?_
  rintro e w' ⟨b1, l1, d1, b2, l2, d2, X, he, hy, hB⟩
  by_cases h1 : nErr t = 0
  · by_cases h2 : o = t
    · rw [grE_bad ho (.inr ⟨h1, h2⟩), if_pos h1] at he
      refine ⟨b1, l1, d1, b2, l2, d2, ?_, fun _ h => absurd h2 h, hB⟩
      unfold rnE
      rw [if_pos h1, if_pos h2]
      exact he
    · have hg := grE_n ho h1 h2 (vo := vo) (vf := vf) hR hl
      obtain ⟨hX, hX1, hX2⟩ := hy hg
      rw [hg] at he
      refine ⟨b1, l1, d1, b2, l2, d2, ?_, fun _ _ => ?_, hB⟩
      · unfold rnE
        rw [if_pos h1, if_neg h2]
        exact he
      · rw [kds_n] at hX
        have hXl : X.length = N.length := by
          have := congrArg List.length hX
          simpa [cN] using this
        have hXc : cN X = cN (N.map (ndT (chN o t) [[97]])) := by rw [hX, cN_ndT]
        exact ⟨W.heap.size, X, hXl, row_c hXc (row_ndT h2 hR), hX1, hX2⟩
  · rw [grE_bad ho (.inl h1), if_neg h1] at he
    refine ⟨b1, l1, d1, b2, l2, d2, ?_, fun h => absurd h h1, hB⟩
    unfold rnE
    rw [if_neg h1]
    exact he
theorem chd_any {o t : Nm} (ho : nErr o = 0) (ht : nErr t = 0) (h : ¬ o = t) {W : World} {a1 a2 : Option Addr} {c1 c2 : Nat} (hS : Sc1 W o (.slice a1 1 c1) (.slice a2 1 c2)) :
    Calls Tryz.prog 9 #[.agg #[.slice a1 1 c1, .slice a2 1 c2], .agg (csR o t)] W fun e w' => ∃ b1 d1 b2 d2, e = .returned (.tuple #[.agg #[.slice b1 1 d1, .slice b2 1 d2], .nilIface]) ∧ Sc2 w' t (.slice b1 1 d1) (.slice b2 1 d2) ∧ Below W.heap.size W w' := by
  obtain ⟨vo, vf, hK, hP, hb⟩ := hS
  have h0 : doE [kdN o vo vf] [bdN] (chN o t) = 0 := by rw [doE_n ho, if_pos ht, if_neg h]
  rw [← one_n]
  refine (do_yes (chN o t) hK hP (szK_n (nErr_max ho) vo vf) hb szB_n (chIs_n W o t) (chSz_n (nErr_max ho) (nErr_max ht)) h0).mono ?_
  rintro e w' ⟨b1, l1, d1, b2, l2, d2, M, rfl, hM, h1, h2, hB⟩
  rw [cK_n] at hM
  rw [cB_n] at h2
  obtain ⟨v1, v2, rfl⟩ := kq_n hM
  have k1 := h1.isK
  have k2 : IsB w' (.slice b2 l2 d2) [bdN] := OwnBs.isB h2
  obtain ⟨y1, y2, e1, _⟩ := k1.sln
  injection e1 with _ q1 _
  obtain ⟨z1, z2, e2, _⟩ := k2.sln
  injection e2 with _ q2 _
  obtain rfl : l1 = 1 := q1
  obtain rfl : l2 = 1 := q2
  exact ⟨b1, d1, b2, d2, rfl, ⟨W.heap.size, v1, v2, h1, h2⟩, hB⟩
theorem got_any {nm : Nm} (h : nErr nm = 0) {W : World} {v : Value} {i : Int} (h1 : 1 ≤ i) (h2 : i ≤ 1000) (hv : IsR W v [prN nm i]) :
    Calls Tryz.prog 10 #[v, .string (bs nm)] W fun e w' => e = .returned (.tuple #[.agg #[.int .i64 1, .int .i64 i, .string ⟨#[]⟩], .nilIface]) ∧ Below W.heap.size W w' := by
  refine (get_any hv (fun p hp => ?_) max1 (bs nm)).mono ?_
  · obtain rfl := List.mem_singleton.1 hp
    exact ⟨by show (bs nm).size ≤ maxLen; rw [bs_size]; exact nErr_max h, Nat.zero_le _⟩
  rintro e w' ⟨he, hB⟩
  have hx : rfErr (bs nm).toList [prN nm i] = 0 := by
    unfold rfErr
    rw [if_pos (rec_n h h1 h2), bs_toList, idx_n, if_neg (by decide)]
  have hg : getV (bs nm).toList [prN nm i] = .agg #[.int .i64 1, .int .i64 i, .string ⟨#[]⟩] := by
    unfold getV
    rw [if_pos hx, bs_toList, idx_n]
    rfl
  rw [hx, hg] at he
  exact ⟨he, hB⟩
theorem sam_any {nm : Nm} {W : World} {v1 v2 v3 v4 : Value} {N M : List Nd} (h1 : IsN W v1 N) (h2 : IsT W v2 []) (h3 : IsN W v3 M) (h4 : IsT W v4 []) (hN : RowPn nm N) (hM : RowPn nm M) (hl : N.length = M.length) (h60 : N.length ≤ 60) :
    Calls Tryz.prog 11 #[.agg #[v1, v2], .agg #[v3, v4]] W fun e w' => e = .returned (.bool true) ∧ Below W.heap.size W w' :=
  graph_same h1 h2 h3 h4 (row_one hN hM hl) (by omega) (by simp) fun n hn => by
    obtain ⟨j, hj⟩ := List.getElem?_of_mem hn
    rw [(hN j n hj).2.2]
    simp
theorem row_at {nm : Nm} {w : World} {b off : Nat} {X : List Nd} (hL : LiesN w b off X) (hX : RowPn nm X) {j : Nat} (hj : j < X.length) : ∃ v, w.cell? ⟨b, off + j * 3 + 2, none⟩ = some v ∧ IsR w v [prN nm ((j : Int) + 1)] := by
  have hx : X[j]? = some X[j] := by simp [hj]
  obtain ⟨_, _, h3, h4⟩ := hL j _ hx
  rw [(hX j _ hx).2.2] at h4
  exact ⟨_, h3, h4⟩
end Go.Proofs.YtpmblbhemcippaaGreatDoor
