/-
  The walk of schema.From.
-/
import Derived.Test.YtgjlonilbhlneaaGreatDoorM41
import Derived.Test.YtgjlonilbhlneaaGreatDoorM08
import Derived.Test.YtgjlonilbhlneaaGreatDoorM39
import Derived.Test.YtgjlonilbhlneaaGreatDoorM24
import Derived.Test.YtgjlonilbhlneaaGreatDoorM40
import Derived.Deep.RegionHeld3
import Derived.Laws.StructEq
import Derived.Deep.QuietTactic
import Derived.BigQuiet
namespace Go.Proofs.YtgjlonilbhlneaaGreatDoor
open Go.RowKit
set_option linter.unusedVariables false
set_option linter.unusedSimpArgs false

def frN (K : List Nm) (B : List Bd) : List Nm := (B.filter fun x => hasN K x.fr).map Bd.nm
def frE (L : List Kd) (B : List Bd) (a : Nm) : Int := if (sErr L B).2 = 0 then nmErr L a else (sErr L B).2
def FrPost (w : World) (L : List Kd) (B : List Bd) (a : Nm) (e : Ending) (w' : World) : Prop :=
  ∃ v, e = .returned (.tuple #[v, errV (frE L B a)]) ∧ (frE L B a = 0 → w'.ownsRow w.heap.size 9 1 v (frN (nms (kin L a)) B).length (cellsS (frN (nms (kin L a)) B))) ∧ (¬ frE L B a = 0 → v = .slice none 0 0) ∧ Below w.heap.size w w'
set_option maxHeartbeats 8000000 in
set_option maxRecDepth 100000 in
theorem sfrom_any {vk vb : Value} {L : List Kd} {B : List Bd} {w : World} (a : Nm) (hK : IsK w vk L) (hP : Parts w L) (hz : SzK L) (hb : IsB w vb B) (hzb : SzB B) :
    Calls Tryz.prog 17 #[.agg #[vk, vb], .string (bs a)] w (FrPost w L B a) := by
  obtain ⟨i9, hi9, hz90, hz91, hz92⟩ := info_parts info9
  obtain ⟨ak, ck, evk, hkl⟩ := hK.sln
  obtain ⟨ab, cb, evb, hbc, hbm, hvb⟩ := isB_view hb
  obtain ⟨_, _, _, hbl⟩ := hb.sln
  subst evk
  subst evb
  have hB0 : Below w.heap.size w (w.alloc (.cells #[.slice ak L.length ck, .slice ab B.length cb] 25)) := b_alloc (Below.refl _ _) (Nat.le_refl _) _
  have c1 := scheck_any (hK.on hB0) (hP.on hB0) hz (hb.on hB0) hzb
  have HB0 : Hid (Below w.heap.size w (w.alloc (.cells #[.slice ak L.length ck, .slice ab B.length cb] 25))) := hB0
  have HH : Hid ((IsK w (.slice ak L.length ck) L ∧ Parts w L ∧ SzK L) ∧ (B.length ≤ cb ∨ B = []) ∧ (∀ (j : Nat) g, B[j]? = some g → ∃ b o, ab = some ⟨b, o, none⟩ ∧ b < w.heap.size ∧ LiesB w b o B)) := ⟨⟨hK, hP, hz⟩, hbc, hvb⟩
  unfold maxLen at hkl hbl hbm
  clear hK hP hz hb hzb hvb hbc hB0
  by_cases h1 : (sErr L B).2 = 0
  · have HL12 : Hid (B.length ≤ 12) := by
      show _ ≤ _
      unfold sErr at h1
      split at h1
      · split at h1
        · cases h1
        · omega
      · exact absurd h1 (by assumption)
    have HE : Hid (frE L B a = nmErr L a) := by
      show _ = _
      unfold frE; rw [if_pos h1]
    rw [h1, errV_0] at c1
    obtain ⟨r, hr⟩ : ∃ r, r = (sErr L B).1 := ⟨_, rfl⟩
    rw [← hr] at c1
    clear h1 hr
    go_enter Tryz.func17, Tryz.ntmps17
    go_wp2_with (go_at_call 6; refine c1.mono ?_; rintro e W1 ⟨rfl, hB1⟩; refine Hid.out ?_)
    refine Lib.hid ?_
    have g0 := hB1.cell (p := ⟨w.heap.size, 0, none⟩) (by simp)
    have g1 := hB1.cell (p := ⟨w.heap.size, 1, none⟩) (by simp)
    simp at g0 g1
    have hsz1 : w.heap.size < W1.heap.size := Nat.lt_of_lt_of_le (by simp) hB1.size
    have hBw1 : Below w.heap.size w W1 := on1 HB0.out hB1 (Nat.le_refl _)
    have c2 := kin_any (HH.out.1.1.on hBw1) (HH.out.1.2.1.on hBw1) HH.out.1.2.2 a
    clear c1 hB1
    by_cases h2 : nmErr L a = 0
    · have c3 : Calls Tryz.prog 41 #[.slice ak L.length ck, .string (bs a)] W1 fun e w' => ∃ v, e = .returned (.tuple #[v, .nilIface]) ∧ w'.ownsRow W1.heap.size 9 1 v (nms (kin L a)).length (cellsS (nms (kin L a))) ∧ Below W1.heap.size W1 w' := c2.mono fun e w' ⟨v, q1, q2, q3, q4⟩ => ⟨v, by rw [q1, h2]; rfl, q2 h2, q4⟩
      have HK12 : Hid ((nms (kin L a)).length ≤ 12) := by
        obtain ⟨hG, hn, _⟩ := nmErr_zero h2
        show _ ≤ _
        unfold nms kin
        rw [List.length_map]
        exact (kin_facts _ w HH.out.1.2.1 hG.small hn).2.2
      obtain ⟨K, hKK⟩ : ∃ K, K = nms (kin L a) := ⟨_, rfl⟩
      rw [← hKK] at c3 HK12
      clear c2
      go_wp2_with (go_at_call 41; refine c3.mono ?_; rintro e W2 ⟨vK, rfl, hown, hB2⟩; refine Hid.out ?_)
      refine Lib.hid ?_
      have f0 := (hB2.cell (p := ⟨w.heap.size, 0, none⟩) hsz1).trans g0
      have f1 := (hB2.cell (p := ⟨w.heap.size, 1, none⟩) hsz1).trans g1
      have hsz2 : w.heap.size < W2.heap.size := Nat.lt_of_lt_of_le hsz1 hB2.size
      have hBw2 : Below w.heap.size w W2 := on1 hBw1 hB2 (Nat.le_refl _)
      clear c3 g0 g1
      have HIS : Hid (IsS W2 vK K) := own_isS hown
      have HEF : Hid (frE L B a = 0 ∧ frN (nms (kin L a)) B = frN K B) := ⟨by rw [HE.out, h2], by rw [hKK]⟩
      clear hown hKK h2
      go_wp2
      go_loopw [10, 34] (fun s10 s34 wr => ∃ k : Nat, k ≤ B.length ∧ s34 = .int .i64 k ∧ wr.ownsRow W2.heap.size 9 1 s10 (frN K (B.take k)).length (cellsS (frN K (B.take k))) ∧ Below W2.heap.size W2 wr) (fun _ s34 _ => B.length - (intOf s34).toNat)
      case atStart => exact ⟨0, Nat.zero_le _, rfl, World.ownsRow_nil _ _ _ _, Below.refl _ _⟩
      case round =>
        obtain ⟨k, hk, rfl, hown, hB⟩ := hrel
        by_cases hlt : k < B.length
        · obtain ⟨p, hp⟩ : ∃ p, B[k]? = some p := ⟨B[k], by simp [hlt]⟩
          have hBw := on1 hBw2 hB (Nat.le_refl _)
          obtain ⟨bx, ox, rfl, hbx, hlx⟩ := HH.out.2.2 k p hp
          obtain ⟨c0, c1, c2, c3, c4⟩ := hlx k p hp
          have d0 := (hBw.cell (p := ⟨bx, ox + k * 5, none⟩) hbx).trans c0
          have d1 := (hBw.cell (p := ⟨bx, ox + k * 5 + 1, none⟩) hbx).trans c1
          have d2 := (hBw.cell (p := ⟨bx, ox + k * 5 + 2, none⟩) hbx).trans c2
          have d3 := (hBw.cell (p := ⟨bx, ox + k * 5 + 3, none⟩) hbx).trans c3
          have d4 := (hBw.cell (p := ⟨bx, ox + k * 5 + 4, none⟩) hbx).trans c4
          have hBb : Below W2.heap.size W2 (wr.alloc (boxB p)) := b_alloc hB (Nat.le_refl _) _
          have cc := contains_any (HIS.out.on hBb) (Nat.le_trans HK12.out (by decide)) p.fr
          have htk := takeK hp
          obtain ⟨F, hF⟩ : ∃ F, F = frN K (B.take k) := ⟨_, rfl⟩
          have hFl : F.length ≤ 12 := by
            rw [hF]; unfold frN
            have h1 := List.length_filter_le (fun x => hasN K x.fr) (B.take k)
            have := HL12.out
            simp at h1 ⊢
            omega
          rw [← hF] at hown
          clear c0 c1 c2 c3 c4 hp hlx
          cases hN : hasN K p.fr with
          | false =>
            rw [hN] at cc
            have HR : Hid ((wr.alloc (boxB p)).ownsRow W2.heap.size 9 1 u10 (frN K (B.take (k + 1))).length (cellsS (frN K (B.take (k + 1)))) ∧ Below W2.heap.size W2 (wr.alloc (boxB p))) := by
              refine ⟨?_, hBb⟩
              have e : frN K (B.take (k + 1)) = F := by rw [htk, hF]; simp [frN, List.filter_append, hN]
              rw [e]; exact hown.alloc _
            clear hown hB hF hFl htk hN hBb hBw
            go_wp2_with (go_at_call 42; refine cc.mono ?_; rintro e w' ⟨rfl, rfl⟩)
            go_roundw
            case rel => exact ⟨k + 1, by omega, by go_num, HR.out.1, HR.out.2⟩
            case measure => simp [intOf]; omega
          | true =>
            rw [hN] at cc
            have HA : Hid (((wr.alloc (boxB p)).alloc (.cells #[.string (bs p.nm)] 9)).ownsRow W2.heap.size 9 1 u10 F.length (cellsS F) ∧ Below W2.heap.size W2 ((wr.alloc (boxB p)).alloc (.cells #[.string (bs p.nm)] 9))) := ⟨(hown.alloc _).alloc _, b_alloc hBb (Nat.le_refl _) _⟩
            have HQ : Hid (frN K (B.take (k + 1)) = F ++ [p.nm]) := by
              show _ = _
              rw [htk, hF]; simp [frN, List.filter_append, hN]
            have HM : Hid (F.length + 1 ≤ maxLen ∧ (F.length + 1) * 16 ≤ 140737488355328) := by unfold maxLen; exact ⟨by omega, by omega⟩
            clear hown hB hF hFl htk hN hBb hBw
            go_wp2_with (first | (go_at_call 42; refine cc.mono ?_; rintro e w' ⟨rfl, rfl⟩) | (at_builtin; refine wpList_append_own _ rfl (.tmp 42) (.tmp 45) 45 rfl W2.heap.size 9 i9 _ 1 16 Tryz.underlying45 hi9 hz90 hz91 hz92 rfl (by decide) u10 F.length (cellsS F) rfl HA.out.1 ⟨wr.heap.size + 1, 0, none⟩ 1 1 [.string (bs p.nm)] (by simp [Act.eval]) rfl (by have := new_at (wr.alloc (boxB p)) [.string (bs p.nm)] 9; simpa using this) (by simp [Value.oneCell']) HM.out.1 HM.out.2 HA.out.2.size ?_; intro v1 w1 hown1 hgrow1 _; refine Hid.out ?_))
            refine Lib.hid ?_
            have HR : Hid (w1.ownsRow W2.heap.size 9 1 v1 (frN K (B.take (k + 1))).length (cellsS (frN K (B.take (k + 1)))) ∧ Below W2.heap.size W2 w1) := by
              refine ⟨?_, HA.out.2.grown hgrow1 HA.out.2.size (fun k hk => ?_)⟩
              · rw [HQ.out, List.length_append, cellsS_app]; exact hown1
              · have := (HA.out.1.lt k hk).1; omega
            clear hown1
            go_wp2
            go_roundw
            case rel => exact ⟨k + 1, by omega, by go_num, HR.out.1, HR.out.2⟩
            case measure => simp [intOf]; omega
        · have hke : B.take k = B := List.take_of_length_le (by omega)
          rw [hke] at hown
          have HR : Hid (wr.ownsRow W2.heap.size 9 1 u10 (frN K B).length (cellsS (frN K B)) ∧ Below w.heap.size w wr) := ⟨hown, on1 hBw2 hB (Nat.le_refl _)⟩
          clear hown hB hke
          go_wp2
          go_ret2
          exact ⟨_, ret_v (by rw [HEF.out.1]; rfl), fun _ => by rw [HEF.out.2]; exact own_base HR.out.1 (Nat.le_of_lt hsz2), fun h => absurd HEF.out.1 h, HR.out.2⟩
    · have h2' := h2
      have HS : Hid (frE L B a = nmErr L a ∧ ¬ nmErr L a = 0) := ⟨HE.out, h2⟩
      have c3 : Calls Tryz.prog 41 #[.slice ak L.length ck, .string (bs a)] W1 fun e w' => e = .returned (.tuple #[.slice none 0 0, .iface 60 (.int .i64 (nmErr L a))]) ∧ Below W1.heap.size W1 w' := c2.mono fun e w' ⟨v, q1, q2, q3, q4⟩ => ⟨by rw [q1, q3 h2, errV_ne h2], q4⟩
      clear c2 h2 h2'
      go_wp2_with (go_at_call 41; refine c3.mono ?_; rintro e W2 ⟨rfl, hB2⟩)
      go_ret2
      exact ⟨_, ret_v (by rw [HS.out.1, errV_ne HS.out.2]; rfl), fun h => absurd h (by rw [HS.out.1]; exact HS.out.2), fun _ => rfl, on1 hBw1 hB2 (Nat.le_refl _)⟩
  · have HE : Hid (frE L B a = (sErr L B).2 ∧ ¬ (sErr L B).2 = 0) := by
      refine ⟨?_, h1⟩
      unfold frE; rw [if_neg h1]
    rw [errV_ne h1] at c1
    clear h1
    go_enter Tryz.func17, Tryz.ntmps17
    go_wp2_with (go_at_call 6; refine c1.mono ?_; rintro e W1 ⟨rfl, hB1⟩)
    go_ret2
    exact ⟨_, ret_v (by rw [HE.out.1, errV_ne HE.out.2]; rfl), fun h => absurd h (by rw [HE.out.1]; exact HE.out.2), fun _ => rfl, on1 HB0.out hB1 (Nat.le_refl _)⟩
end Go.Proofs.YtgjlonilbhlneaaGreatDoor

/-
  What the walk of the law SchemaTells asks: a text is read alike by package schema and by kinref1.
-/
namespace Go.Proofs.YtgjlonilbhlneaaGreatDoor
open Go.RowKit
set_option linter.unusedVariables false
set_option linter.unusedSimpArgs false

def Sc (P : List (Nm × List Nm × List Fd)) (B : List Bd) (w : World) (vk vb : Value) : Prop := ∃ L : List Kd, L.map kq = P ∧ IsK w vk L ∧ Parts w L ∧ IsB w vb B
theorem Sc.on {P : List (Nm × List Nm × List Fd)} {B : List Bd} {w w' : World} {vk vb : Value} (h : Sc P B w vk vb) (hB : Below w.heap.size w w') : Sc P B w' vk vb := by
  obtain ⟨L, h1, h2, h3, h4⟩ := h
  exact ⟨L, h1, h2.on hB, h3.on hB, h4.on hB⟩
theorem Sc.nil (w : World) : Sc [] [] w (.slice none 0 0) (.slice none 0 0) := ⟨[], rfl, .inl ⟨rfl, rfl⟩, fun k hk => (by cases hk), .inl ⟨rfl, rfl⟩⟩
def SmP (P : List (Nm × List Nm × List Fd)) (B : List Bd) : Prop := P.length ≤ 1000 ∧ B.length ≤ 1000 ∧ ∀ q ∈ P, q.2.1.length ≤ 1000 ∧ q.2.2.length ≤ 1000
theorem smP_nil : SmP [] [] := ⟨by decide, by decide, fun q hq => by cases hq⟩
theorem smP_of {L : List Kd} {B : List Bd} (h : (sErr L B).2 = 0) : SmP (L.map kq) B := by
  obtain ⟨hks, _, hB12⟩ := sErr_good.1 h
  obtain ⟨hG, hL12⟩ := ksErr_good.1 hks
  refine ⟨by rw [List.length_map]; omega, by omega, fun q hq => ?_⟩
  obtain ⟨k, hk, rfl⟩ := List.mem_map.1 hq
  have := good_ok hG hk
  exact ⟨Nat.le_trans this.of4 (by omega), Nat.le_trans this.fs8 (by omega)⟩
theorem sc_same {P : List (Nm × List Nm × List Fd)} {B : List Bd} {w : World} {vk vb uk ub : Value} (h1 : Sc P B w vk vb) (h2 : Sc P B w uk ub) (hs : SmP P B) : Calls Tryz.prog 12 #[.agg #[vk, vb], .agg #[uk, ub]] w fun e w' => e = .returned (.bool true) ∧ Below w.heap.size w w' := by
  obtain ⟨L, e1, a1, a2, a3⟩ := h1
  obtain ⟨L', e2, b1, b2, b3⟩ := h2
  refine schema_same a1 a2 a3 b1 b2 b3 (e1.trans e2.symm) hs.2.1 ?_ fun k hk => ?_
  · have := hs.1; rw [← e1, List.length_map] at this; exact this
  · exact hs.2.2 (kq k) (by rw [← e1]; exact List.mem_map.2 ⟨k, hk, rfl⟩)
theorem fold_none_app {pre rest : List Nm} {y : Nm} {st : List (Nm × List Nm × List Fd) × List Bd} (h : lnFold pre = some st) (hy : lnStep st y = none) : lnFold (pre ++ y :: rest) = none := by
  have h1 : lnFold (pre ++ [y]) = none := by rw [lnFold_snoc, h]; exact hy
  have e : pre ++ y :: rest = (pre ++ [y]) ++ rest := by simp
  rw [e]
  unfold lnFold at h1 ⊢
  rw [List.foldl_append, h1]
  clear e
  induction rest with
  | nil => rfl
  | cons a r ih => exact ih
theorem fold_at {pre pre' rest rest' : List Nm} {y y' : Nm} {st st' : List (Nm × List Nm × List Fd) × List Bd} (e : pre ++ y :: rest = pre' ++ y' :: rest') (h1 : lnFold pre = some st) (h2 : lnStep st y = none) (h3 : lnFold pre' = some st') (h4 : lnStep st' y' = none) : pre.length = pre'.length := by
  have one : ∀ {p p' r r' : List Nm} {z z' : Nm} {s s' : List (Nm × List Nm × List Fd) × List Bd}, p ++ z :: r = p' ++ z' :: r' → lnFold p = some s → lnStep s z = none → lnFold p' = some s' → ¬ p.length < p'.length := by
    intro p p' r r' z z' s s' e a1 a2 a3 hlt
    have ep : p' = p ++ z :: (p'.drop (p.length + 1)) := by
      have t1 := congrArg (List.take p'.length) e
      rw [List.take_left' rfl, List.take_append, List.take_of_length_le (by omega)] at t1
      obtain ⟨m, hm⟩ : ∃ m, p'.length - p.length = m + 1 := ⟨p'.length - p.length - 1, by omega⟩
      rw [hm, List.take_succ_cons] at t1
      rw [← t1]
      simp
    rw [ep] at a3
    rw [fold_none_app a1 a2] at a3
    cases a3
  have q1 := one e h1 h2 h3
  have q2 := one e.symm h3 h4 h1
  omega
theorem both_read (t : Nm) (ht : t.length ≤ 10000000) : ∃ (at' z : Int) (P : List (Nm × List Nm × List Fd)) (B : List Bd), SmP P B ∧
    (∀ w, Calls Tryz.prog 10 #[.string (bs t)] w fun e w' => ∃ a1 n1 c1 a2 n2 c2, e = .returned (.tuple #[.agg #[.slice a1 n1 c1, .slice a2 n2 c2], .int .i64 at', .int .i64 z]) ∧ Sc P B w' (.slice a1 n1 c1) (.slice a2 n2 c2) ∧ Below w.heap.size w w') ∧
    (∀ w, EV w → Calls Tryz.prog 11 #[.string (bs t)] w fun e w' => ∃ a1 n1 c1 a2 n2 c2, e = .returned (.tuple #[.agg #[.slice a1 n1 c1, .slice a2 n2 c2], .int .i64 at', errV z]) ∧ Sc P B w' (.slice a1 n1 c1) (.slice a2 n2 c2) ∧ Below w.heap.size w w') := by
  have hrs := read_same t
  cases hg : rGo [] [] 0 (pcs 10 t) with
  | error k =>
    rw [hg] at hrs
    obtain ⟨hf, pre, y, rest, st, d1, d2, d3, d4⟩ := hrs
    refine ⟨(k : Int), 2, [], [], smP_nil, fun w => (rread_any t w ht).mono ?_, fun w hE => (parse_calls t (by omega) w hE).mono ?_⟩
    · rintro e w' ⟨hB, ⟨k', h1, rfl⟩ | ⟨L, B, h1, _⟩ | ⟨L, B, vk, vb, h1, _⟩⟩
      · rw [hg] at h1
        injection h1 with h1
        subst h1
        exact ⟨_, _, _, _, _, _, rfl, Sc.nil w', hB⟩
      · rw [hg] at h1; cases h1
      · rw [hg] at h1; cases h1
    · rintro e w' ⟨ak, nk, ck, ab, nb, cb, a', z, rfl, hB, h0, h1⟩
      by_cases hz : z = 0
      · obtain ⟨_, L, B, q1, _⟩ := h0 hz
        rw [hf] at q1; cases q1
      · obtain ⟨⟨rfl, rfl, rfl, rfl, rfl, rfl⟩, ⟨_, rfl, k', rfl, pre', y', rest', st', f1, f2, f3, f4⟩ | ⟨_, L, B, q1, _⟩⟩ := h1 hz
        · have hk : k' = k := by
            have := fold_at (d1.symm.trans f1) d3 d4 f3 f4
            omega
          subst hk
          exact ⟨_, _, _, _, _, _, rfl, Sc.nil w', hB⟩
        · rw [hf] at q1; cases q1
  | ok st =>
    rw [hg] at hrs
    obtain ⟨P, B⟩ := st
    have hf : lnFold (linesL t) = some (P.take 13, B.take 13) := hrs
    obtain ⟨L0, hL0⟩ : ∃ L0 : List Kd, L0.map kq = P := ⟨P.map fun q => ⟨q.1, q.2.1, q.2.2, .nilIface, .nilIface⟩, by rw [List.map_map]; exact (List.map_congr_left (fun q _ => rfl)).trans (List.map_id P)⟩
    have hcap : ∀ {L' : List Kd}, L'.map kq = P.take 13 → sErr L' (B.take 13) = sErr L0 B := fun h => cap_err B hL0 h
    by_cases hz : (sErr L0 B).2 = 0
    · obtain ⟨hks, _, hB12⟩ := sErr_good.1 hz
      obtain ⟨_, hL12⟩ := ksErr_good.1 hks
      have hP12 : P.length ≤ 12 := by rw [← hL0, List.length_map]; exact hL12
      refine ⟨0, 0, P, B, by rw [← hL0]; exact smP_of hz, fun w => (rread_any t w ht).mono ?_, fun w hE => (parse_calls t (by omega) w hE).mono ?_⟩
      · rintro e w' ⟨hB, ⟨k', h1, rfl⟩ | ⟨L, B', h1, h2, _⟩ | ⟨L, B', vk, vb, h1, h2, rfl, h3, h4, h5⟩⟩
        · rw [hg] at h1; cases h1
        · rw [hg] at h1
          injection h1 with h1
          injection h1 with i1 i2
          subst i2
          rw [sErr_kq (i1.symm.trans hL0.symm)] at h2
          exact absurd hz h2
        · rw [hg] at h1
          injection h1 with h1
          injection h1 with i1 i2
          subst i2
          obtain ⟨a1, c1, e1, _⟩ := h3.sln
          obtain ⟨a2, c2, e2, _⟩ := h5.sln
          subst e1 e2
          exact ⟨_, _, _, _, _, _, rfl, ⟨L, i1.symm, h3, h4, h5⟩, hB⟩
      · rintro e w' ⟨ak, nk, ck, ab, nb, cb, a', z, rfl, hB, h0, h1⟩
        by_cases hz' : z = 0
        · obtain ⟨rfl, L, B', q1, q2, q3, q4, q5⟩ := h0 hz'
          subst hz'
          rw [hf] at q1
          injection q1 with q1
          injection q1 with i1 i2
          rw [List.take_of_length_le (by omega)] at i1 i2
          subst i2
          exact ⟨_, _, _, _, _, _, rfl, ⟨L, i1.symm, q3, q4, q5⟩, hB⟩
        · obtain ⟨_, ⟨q1, _⟩ | ⟨_, L, B', q1, q2⟩⟩ := h1 hz'
          · rw [hf] at q1; cases q1
          · rw [hf] at q1
            injection q1 with q1
            injection q1 with i1 i2
            subst i2
            rw [hcap i1.symm, hz] at q2
            exact absurd q2.symm hz'
    · refine ⟨0, (sErr L0 B).2, [], [], smP_nil, fun w => (rread_any t w ht).mono ?_, fun w hE => (parse_calls t (by omega) w hE).mono ?_⟩
      · rintro e w' ⟨hB, ⟨k', h1, rfl⟩ | ⟨L, B', h1, h2, rfl⟩ | ⟨L, B', vk, vb, h1, h2, _⟩⟩
        · rw [hg] at h1; cases h1
        · rw [hg] at h1
          injection h1 with h1
          injection h1 with i1 i2
          subst i2
          rw [sErr_kq (i1.symm.trans hL0.symm)]
          exact ⟨_, _, _, _, _, _, rfl, Sc.nil w', hB⟩
        · rw [hg] at h1
          injection h1 with h1
          injection h1 with i1 i2
          subst i2
          rw [sErr_kq (i1.symm.trans hL0.symm)] at h2
          exact absurd h2 hz
      · rintro e w' ⟨ak, nk, ck, ab, nb, cb, a', z, rfl, hB, h0, h1⟩
        by_cases hz' : z = 0
        · obtain ⟨rfl, L, B', q1, q2, _⟩ := h0 hz'
          rw [hf] at q1
          injection q1 with q1
          injection q1 with i1 i2
          subst i2
          rw [hcap i1.symm] at q2
          exact absurd q2 hz
        · obtain ⟨⟨rfl, rfl, rfl, rfl, rfl, rfl⟩, ⟨q1, _⟩ | ⟨rfl, L, B', q1, q2⟩⟩ := h1 hz'
          · rw [hf] at q1; cases q1
          · rw [hf] at q1
            injection q1 with q1
            injection q1 with i1 i2
            subst i2
            rw [hcap i1.symm] at q2
            subst q2
            exact ⟨_, _, _, _, _, _, rfl, Sc.nil w', hB⟩
end Go.Proofs.YtgjlonilbhlneaaGreatDoor

/-
  The walk of the law SchemaTells: a schema that is wrong.
-/
namespace Go.Proofs.YtgjlonilbhlneaaGreatDoor
open Go.RowKit
set_option linter.unusedVariables false
set_option linter.unusedSimpArgs false

theorem texts_nil (w : World) : Calls Tryz.prog 18 #[.slice none 0 0, .slice none 0 0] w fun e w' => e = .returned (.bool true) ∧ Below w.heap.size w w' := texts_sameR (l := []) (.inl ⟨none, 0, rfl, rfl, Nat.zero_le _, fun _ => rfl⟩) (.inl ⟨none, 0, rfl, rfl, Nat.zero_le _, fun _ => rfl⟩) (Nat.zero_le _)
theorem bond_eqx (a b c : ByteArray) (m n : Int) (w : World) : (binOp .eql 40 (.agg #[.string a, .string b, .string c, .int .i64 m, .int .i64 n]) (.agg #[.string a, .string b, .string c, .int .i64 m, .int .i64 n])).run Tryz.prog w = .ok (.bool true) w := by
  simp [go_sem, Tryz.underlying40, Tryz.underlying9, Tryz.underlying3]
theorem bond_eq0 (w : World) : (binOp .eql 40 (.agg #[.string ⟨#[]⟩, .string ⟨#[]⟩, .string ⟨#[]⟩, .int .i64 0, .int .i64 0]) (.agg #[.string ⟨#[]⟩, .string ⟨#[]⟩, .string ⟨#[]⟩, .int .i64 0, .int .i64 0])).run Tryz.prog w = .ok (.bool true) w := bond_eqx _ _ _ _ _ w
set_option maxHeartbeats 16000000 in
set_option maxRecDepth 100000 in
theorem tells_bad {vk vb : Value} {L : List Kd} {B : List Bd} {t s : Nm} {w : World} (hK : IsK w vk L) (hP : Parts w L) (hz : SzK L) (hb : IsB w vb B) (hzb : SzB B) (ht : t.length ≤ 10000000) (hE : EV w) (hH : Hnd w) (hse : ¬ (sErr L B).2 = 0) :
    Calls Tryz.prog 3 #[.agg #[vk, vb], .string (bs t), .string (bs s)] w fun e w' => e = .returned (.bool true) ∧ Below w.heap.size w w' := by
  obtain ⟨at', zz, P0, B0, hSm, cRd, cPs⟩ := both_read t ht
  obtain ⟨W0, hW0⟩ : ∃ W0, W0 = w.alloc (.cells #[vk, vb] 25) := ⟨_, rfl⟩
  have hB0 : Below w.heap.size w W0 := by rw [hW0]; exact b_alloc (Below.refl _ _) (Nat.le_refl _) _
  have n0 : W0.heap[w.heap.size]? = some (.cells #[vk, vb] 25 (0, 0)) := by rw [hW0]; exact heap_alloc_new w _
  have HBw : Hid (∀ W, Below W0.heap.size W0 W → Below w.heap.size w W) := fun W h => on1 hB0 h (Nat.le_refl _)
  have HX : Hid (∀ W, Below W0.heap.size W0 W → W.cell? ⟨w.heap.size, 0, none⟩ = some vk ∧ W.cell? ⟨w.heap.size, 1, none⟩ = some vb) := fun W h => ⟨cellB ((h.block _ (Array.getElem?_eq_some_iff.1 n0).1).trans n0) rfl, cellB ((h.block _ (Array.getElem?_eq_some_iff.1 n0).1).trans n0) rfl⟩
  have HZ0 : Hid (w.heap.size < W0.heap.size) := (Array.getElem?_eq_some_iff.1 n0).1
  obtain ⟨ak, ck, evk, _⟩ := hK.sln
  obtain ⟨ab, cb, evb, hbl⟩ := hb.sln
  subst evk evb
  have HHd : Hid (∀ W, Below W0.heap.size W0 W → Hnd W) := fun W h => (on1 hB0 h (Nat.le_refl _)).cell (p := ⟨0, 0, none⟩) (World.block_lt_of_cell? w _ hH) |>.trans hH
  have c5 := Lib.hid (fun W (h : Below W0.heap.size W0 W) => rschema_any (hK.on (HBw.out W h)) (hP.on (HBw.out W h)) hz (hb.on (HBw.out W h)) hzb)
  have c6 := Lib.hid (fun W (h : Below W0.heap.size W0 W) => scheck_any (hK.on (HBw.out W h)) (hP.on (HBw.out W h)) hz (hb.on (HBw.out W h)) hzb)
  have c7 := Lib.hid (fun (x : Int) W (h : Below W0.heap.size W0 W) => error_any x W (HHd.out W h))
  have c11 := Lib.hid (fun W (h : Below W0.heap.size W0 W) => cPs W (hE.on (HBw.out W h)))
  have c14 := Lib.hid (fun W (h : Below W0.heap.size W0 W) => sbond_any s (hK.on (HBw.out W h)) (hP.on (HBw.out W h)) hz (hb.on (HBw.out W h)) hzb)
  have c17 := Lib.hid (fun W (h : Below W0.heap.size W0 W) => sfrom_any s (hK.on (HBw.out W h)) (hP.on (HBw.out W h)) hz (hb.on (HBw.out W h)) hzb)
  have HG : Hid (IsK w (.slice ak L.length ck) L ∧ Parts w L ∧ IsB w (.slice ab B.length cb) B) := ⟨hK, hP, hb⟩
  obtain ⟨who, hwho⟩ : ∃ who, who = (sErr L B).1 := ⟨_, rfl⟩
  obtain ⟨z, hzz⟩ : ∃ z, z = (sErr L B).2 := ⟨_, rfl⟩
  rw [← hzz] at hse
  have hzb0 : (z == 0) = false := by simpa using hse
  have c9 := Lib.hid (fun W (h : Below W0.heap.size W0 W) => sprint_bad (HG.out.1.on (HBw.out W h)) (HG.out.2.1.on (HBw.out W h)) hz (HG.out.2.2.on (HBw.out W h)) hzb (by rw [← hzz]; exact hse))
  rw [← hzz] at c9
  have c7z : ∀ W (h : Below W0.heap.size W0 W), Calls Tryz.prog 7 #[.iface 60 (.int .i64 z), .int .i64 z] W fun e w' => e = .returned (.bool true) ∧ Below W.heap.size W w' := fun W h => by
    have := c7.out z W h
    rwa [errV_ne hse] at this
  have hbt : bdTell L B s = (bdZ, z) := by unfold bdTell; rw [if_neg (by rw [← hzz]; exact hse), hzz]
  rw [hbt, show bdZ.one = .agg #[.string ⟨#[]⟩, .string ⟨#[]⟩, .string ⟨#[]⟩, .int .i64 0, .int .i64 0] from rfl] at c14
  have hfe : frE L B s = z := by unfold frE; rw [if_neg (by rw [← hzz]; exact hse), hzz]
  rw [← hwho, ← hzz] at c5 c6
  have HFe := Lib.hid hfe
  clear hfe hbt hzz hwho
  go_enter Tryz.func3, Tryz.ntmps3
  go_upto_region 1 with fail
  rw [← hW0]
  clear hW0 hB0 n0 hK hP hb hE hH cPs
  obtain ⟨x0, x1⟩ := HX.out W0 (Below.refl _ _)
  go_wp2_with (first | (go_at_call 5; refine (c5.out _ (Below.refl _ _)).mono ?_; rintro e W1 ⟨rfl, hb1⟩; refine Hid.out ?_))
  refine Lib.hid ?_
  have hBW1 := on1 (Below.refl _ _) hb1 (Nat.le_refl _)
  obtain ⟨x0W1, x1W1⟩ := HX.out W1 hBW1
  clear hb1
  go_wp2_with (first | (go_at_call 6; refine (c6.out _ hBW1).mono ?_; rintro e W2 ⟨rfl, hb1⟩; refine Hid.out ?_))
  refine Lib.hid ?_
  have hBW2 := on1 hBW1 hb1 (Nat.le_refl _)
  obtain ⟨x0W2, x1W2⟩ := HX.out W2 hBW2
  clear hb1
  clear x0 x1 x0W1 x1W1
  go_wp2_with (first | (go_at_call 7; refine (c7.out z _ hBW2).mono ?_; rintro e W3 ⟨rfl, hb1⟩; refine Hid.out ?_))
  refine Lib.hid ?_
  have hBW3 := on1 hBW2 hb1 (Nat.le_refl _)
  obtain ⟨x0W3, x1W3⟩ := HX.out W3 hBW3
  clear hb1
  clear x0W2 x1W2
  go_wp2_with (first | (go_at_call 9; refine (c9.out _ hBW3).mono ?_; rintro e W5 ⟨rfl, hb1⟩; refine Hid.out ?_))
  refine Lib.hid ?_
  have hBW5 := on1 hBW3 hb1 (Nat.le_refl _)
  obtain ⟨x0W5, x1W5⟩ := HX.out W5 hBW5
  clear hb1
  clear x0W3 x1W3
  go_wp2_with (first | (go_at_call 7; refine (c7z _ hBW5).mono ?_; rintro e W6 ⟨rfl, hb1⟩; refine Hid.out ?_))
  refine Lib.hid ?_
  have hBW6 := on1 hBW5 hb1 (Nat.le_refl _)
  obtain ⟨x0W6, x1W6⟩ := HX.out W6 hBW6
  clear hb1
  clear x0W5 x1W5
  go_wp2_with (first | (go_at_call 10; refine (cRd _).mono ?_; rintro e W7 ⟨a1, m1, c1, a2, m2, c2, rfl, hsx, hb1⟩; refine Hid.out ?_))
  refine Lib.hid ?_
  have hBW7 := on1 hBW6 hb1 (Nat.le_refl _)
  obtain ⟨x0W7, x1W7⟩ := HX.out W7 hBW7
  clear hb1
  clear x0W6 x1W6 x0W7 x1W7
  have hBW7a : Below W0.heap.size W0 (W7.alloc (.cells #[.slice a1 m1 c1, .slice a2 m2 c2] 25)) := on1 hBW7 (b_alloc (Below.refl _ _) (Nat.le_refl _) _) (Nat.le_refl _)
  have nW7a : (W7.alloc (.cells #[.slice a1 m1 c1, .slice a2 m2 c2] 25)).heap[W7.heap.size]? = some (.cells #[.slice a1 m1 c1, .slice a2 m2 c2] 25 (0, 0)) := heap_alloc_new _ _
  obtain ⟨W7a, hW7a⟩ : ∃ X, X = W7.alloc (.cells #[.slice a1 m1 c1, .slice a2 m2 c2] 25) := ⟨_, rfl⟩
  rw [← hW7a] at hBW7a nW7a
  have HW7a := Lib.hid hW7a
  clear hW7a
  have hsx := hsx.on (show Below W7.heap.size W7 W7a by rw [HW7a.out]; exact b_alloc (Below.refl _ _) (Nat.le_refl _) _)
  go_upto_region 10 with fail
  rw [← HW7a.out]
  go_wp2_with (first | (go_at_call 11; refine (c11.out _ hBW7a).mono ?_; rintro e W8 ⟨d1, k1, e1, d2, k2, e2, rfl, hsy, hb1⟩; refine Hid.out ?_))
  refine Lib.hid ?_
  have hsx := hsx.on hb1
  have hx8 := (hb1.block _ (Array.getElem?_eq_some_iff.1 nW7a).1).trans nW7a
  have hBW8 := on1 hBW7a hb1 (Nat.le_refl _)
  obtain ⟨x0W8, x1W8⟩ := HX.out W8 hBW8
  clear hb1
  clear x0W8 x1W8 nW7a
  have hBW8a : Below W0.heap.size W0 (W8.alloc (.cells #[.slice d1 k1 e1, .slice d2 k2 e2] 25)) := on1 hBW8 (b_alloc (Below.refl _ _) (Nat.le_refl _) _) (Nat.le_refl _)
  have nW8a : (W8.alloc (.cells #[.slice d1 k1 e1, .slice d2 k2 e2] 25)).heap[W8.heap.size]? = some (.cells #[.slice d1 k1 e1, .slice d2 k2 e2] 25 (0, 0)) := heap_alloc_new _ _
  obtain ⟨W8a, hW8a⟩ : ∃ X, X = W8.alloc (.cells #[.slice d1 k1 e1, .slice d2 k2 e2] 25) := ⟨_, rfl⟩
  rw [← hW8a] at hBW8a nW8a
  have HW8a := Lib.hid hW8a
  clear hW8a
  have hb8 : Below W8.heap.size W8 W8a := by rw [HW8a.out]; exact b_alloc (Below.refl _ _) (Nat.le_refl _) _
  have hsx := hsx.on hb8
  have hsy := hsy.on hb8
  have hx8 := (hb8.block _ (Array.getElem?_eq_some_iff.1 hx8).1).trans hx8
  clear hb8
  go_upto_region 11 with fail
  rw [← HW8a.out]
  go_wp2_with (first | (go_at_call 7; refine (c7.out zz _ hBW8a).mono ?_; rintro e W9 ⟨rfl, hb1⟩; refine Hid.out ?_))
  refine Lib.hid ?_
  have hsx := hsx.on hb1
  have hsy := hsy.on hb1
  have hx8 := (hb1.block _ (Array.getElem?_eq_some_iff.1 hx8).1).trans hx8
  have hy8 := (hb1.block _ (Array.getElem?_eq_some_iff.1 nW8a).1).trans nW8a
  have hBW9 := on1 hBW8a hb1 (Nat.le_refl _)
  obtain ⟨x0W9, x1W9⟩ := HX.out W9 hBW9
  clear hb1
  have p0 := cellB (i := 0) hx8 rfl
  have p1 := cellB (i := 1) hx8 rfl
  have q0 := cellB (i := 0) hy8 rfl
  have q1 := cellB (i := 1) hy8 rfl
  have c12 := sc_same hsy hsx hSm
  clear hx8 hy8 hsx hsy nW8a x0W9 x1W9
  go_wp2_with (first | (go_at_call 12; refine (c12).mono ?_; rintro e W10 ⟨rfl, hb1⟩; refine Hid.out ?_))
  refine Lib.hid ?_
  have hBW10 := on1 hBW9 hb1 (Nat.le_refl _)
  obtain ⟨x0W10, x1W10⟩ := HX.out W10 hBW10
  clear hb1
  clear p0 p1 q0 q1 c12
  have hBWb : Below W0.heap.size W0 (W10.alloc (.cells #[.string ⟨#[]⟩, .string ⟨#[]⟩, .string ⟨#[]⟩, .int .i64 0, .int .i64 0] 40)) := on1 hBW10 (b_alloc (Below.refl _ _) (Nat.le_refl _) _) (Nat.le_refl _)
  have nWb : (W10.alloc (.cells #[.string ⟨#[]⟩, .string ⟨#[]⟩, .string ⟨#[]⟩, .int .i64 0, .int .i64 0] 40)).heap[W10.heap.size]? = some (.cells #[.string ⟨#[]⟩, .string ⟨#[]⟩, .string ⟨#[]⟩, .int .i64 0, .int .i64 0] 40 (0, 0)) := heap_alloc_new _ _
  obtain ⟨Wb, hWb⟩ : ∃ X, X = W10.alloc (.cells #[.string ⟨#[]⟩, .string ⟨#[]⟩, .string ⟨#[]⟩, .int .i64 0, .int .i64 0] 40) := ⟨_, rfl⟩
  rw [← hWb] at hBWb nWb
  have HWb := Lib.hid hWb
  clear hWb
  obtain ⟨x0Wb, x1Wb⟩ := HX.out Wb hBWb
  clear x0W10 x1W10
  go_upto_region 15 with fail
  rw [← HWb.out]
  go_wp2_with (first | (go_at_call 14; refine (c14.out _ hBWb).mono ?_; rintro e W12 ⟨rfl, hb1⟩; refine Hid.out ?_))
  refine Lib.hid ?_
  have hbb := (hb1.block _ (Array.getElem?_eq_some_iff.1 nWb).1).trans nWb
  have hBW12 := on1 hBWb hb1 (Nat.le_refl _)
  obtain ⟨x0W12, x1W12⟩ := HX.out W12 hBW12
  clear hb1
  have hBWc : Below W0.heap.size W0 (W12.alloc (.cells #[.string ⟨#[]⟩, .string ⟨#[]⟩, .string ⟨#[]⟩, .int .i64 0, .int .i64 0] 40)) := on1 hBW12 (b_alloc (Below.refl _ _) (Nat.le_refl _) _) (Nat.le_refl _)
  have nWc : (W12.alloc (.cells #[.string ⟨#[]⟩, .string ⟨#[]⟩, .string ⟨#[]⟩, .int .i64 0, .int .i64 0] 40)).heap[W12.heap.size]? = some (.cells #[.string ⟨#[]⟩, .string ⟨#[]⟩, .string ⟨#[]⟩, .int .i64 0, .int .i64 0] 40 (0, 0)) := heap_alloc_new _ _
  obtain ⟨Wc, hWc⟩ : ∃ X, X = W12.alloc (.cells #[.string ⟨#[]⟩, .string ⟨#[]⟩, .string ⟨#[]⟩, .int .i64 0, .int .i64 0] 40) := ⟨_, rfl⟩
  rw [← hWc] at hBWc nWc
  have HWc := Lib.hid hWc
  clear hWc
  have hbb := ((show Below W12.heap.size W12 Wc by rw [HWc.out]; exact b_alloc (Below.refl _ _) (Nat.le_refl _) _).block _ (Array.getElem?_eq_some_iff.1 hbb).1).trans hbb
  clear x0Wb x1Wb x0W12 x1W12 nWb
  go_upto_region 21 with fail
  rw [← HWc.out]
  go_wp2_with (first | (go_at_call 7; refine (c7.out z _ hBWc).mono ?_; rintro e W13 ⟨rfl, hb1⟩; refine Hid.out ?_))
  refine Lib.hid ?_
  have hbb := (hb1.block _ (Array.getElem?_eq_some_iff.1 hbb).1).trans hbb
  have hcc := (hb1.block _ (Array.getElem?_eq_some_iff.1 nWc).1).trans nWc
  have hBW13 := on1 hBWc hb1 (Nat.le_refl _)
  obtain ⟨x0W13, x1W13⟩ := HX.out W13 hBW13
  clear hb1
  clear nWc
  have hBl : (B.length : Int) = 0 ∨ (0 : Int) < (B.length : Int) := by omega
  unfold maxLen at hbl
  go_upto_region 25 with fail
  go_wp2
  go_loop [26, 27] (fun f i => f = .slice none 0 0 ∧ i = .int .i64 0) (fun _ _ => 0)
  case atStart => exact ⟨rfl, rfl⟩
  case round =>
    obtain ⟨rfl, rfl⟩ := hrel
    rcases hBl with h0 | h0
    all_goals
      have cF := c17.out _ hBW13
      go_wp2_with (first | (go_at_call 17; refine cF.mono ?_; rintro e W14 ⟨v, rfl, _, hv2, hb1⟩; obtain rfl := hv2 (by rw [HFe.out]; exact hse); rw [HFe.out]; refine Hid.out ?_))
      refine Lib.hid ?_
      have hbb := (hb1.block _ (Array.getElem?_eq_some_iff.1 hbb).1).trans hbb
      have hcc := (hb1.block _ (Array.getElem?_eq_some_iff.1 hcc).1).trans hcc
      have hBW14 := on1 hBW13 hb1 (Nat.le_refl _)
      clear hb1 x0W13 x1W13 h0 cF
      go_wp2_with (first | (go_at_call 7; refine (c7.out z _ hBW14).mono ?_; rintro e W15 ⟨rfl, hb1⟩; refine Hid.out ?_))
      refine Lib.hid ?_
      have hbb := (hb1.block _ (Array.getElem?_eq_some_iff.1 hbb).1).trans hbb
      have hcc := (hb1.block _ (Array.getElem?_eq_some_iff.1 hcc).1).trans hcc
      have hBW15 := on1 hBW14 hb1 (Nat.le_refl _)
      clear hb1
      have c18 := texts_nil W15
      go_wp2_with (first | (go_at_call 18; refine c18.mono ?_; rintro e W16 ⟨rfl, hb1⟩; refine Hid.out ?_))
      refine Lib.hid ?_
      have hbb := (hb1.block _ (Array.getElem?_eq_some_iff.1 hbb).1).trans hbb
      have hcc := (hb1.block _ (Array.getElem?_eq_some_iff.1 hcc).1).trans hcc
      have HB16 := Lib.hid (HBw.out _ (on1 hBW15 hb1 (Nat.le_refl _)))
      have b0 := cellB (i := 0) hbb rfl
      have b1 := cellB (i := 1) hbb rfl
      have b2 := cellB (i := 2) hbb rfl
      have b3 := cellB (i := 3) hbb rfl
      have b4 := cellB (i := 4) hbb rfl
      have d0 := cellB (i := 0) hcc rfl
      have d1' := cellB (i := 1) hcc rfl
      have d2' := cellB (i := 2) hcc rfl
      have d3 := cellB (i := 3) hcc rfl
      have d4 := cellB (i := 4) hcc rfl
      have heq := bond_eq0
      clear hb1 hbb hcc
      go_wp2
      go_ret
      exact ⟨rfl, HB16.out⟩
end Go.Proofs.YtgjlonilbhlneaaGreatDoor
