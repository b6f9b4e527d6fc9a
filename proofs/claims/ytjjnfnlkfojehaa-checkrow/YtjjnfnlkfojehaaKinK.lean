/-
  The walks of kind.Check, find, Fields and Is.
-/
import Derived.Test.YtjjnfnlkfojehaaKinJ
namespace Go.Proofs.Ytjjnfnlkfojehaa
open Go.RowKit
set_option linter.unusedVariables false
set_option linter.unusedSimpArgs false

set_option maxHeartbeats 8000000 in
set_option maxRecDepth 100000 in
theorem check_some (b off cap : Nat) (L : List Kd) (w : World) (hb : b < w.heap.size) (hL : LiesK w b off L) (hP : Parts w L) (hz : SzK L) (hn : L.length ≤ 12) (hc : L.length ≤ cap) (hcm : cap ≤ maxLen) :
    Calls Try.prog 24 #[.slice (some ⟨b, off, none⟩) L.length cap] w fun e w' => e = .returned (.tuple #[.string (bs (ksErr L).1), errV (ksErr L).2]) ∧ Below w.heap.size w w' := by
  have HH : Hid (LiesK w b off L ∧ Parts w L ∧ SzK L ∧ cap ≤ maxLen ∧ ksErr L = ksGo [] L) := ⟨hL, hP, hz, hcm, by unfold ksErr; rw [if_neg (by omega)]⟩
  unfold maxLen at hcm
  clear hL hP hz
  go_enter Try.func24, Try.ntmps24
  go_wp2
  go_loopw [13] (fun i wr => ∃ k : Nat, k ≤ L.length ∧ i = .int .i64 k ∧ (ksErr L = ksGo (L.take k) (L.drop k) ∧ Good (L.take k)) ∧ Below w.heap.size w wr) (fun i _ => L.length - (intOf i).toNat)
  case atStart => exact ⟨0, Nat.zero_le _, rfl, ⟨by rw [HH.out.2.2.2.2]; rfl, fun i k hk => by simp at hk⟩, Below.refl _ _⟩
  case round =>
    obtain ⟨k, hk, rfl, hg, hB⟩ := hrel
    have HG : Hid (ksErr L = ksGo (L.take k) (L.drop k) ∧ Good (L.take k)) := hg
    clear hg
    by_cases hlt : k < L.length
    · obtain ⟨p, hp⟩ : ∃ p, L[k]? = some p := ⟨L[k], by simp [hlt]⟩
      obtain ⟨hL, hP, hz, hcm', _⟩ := HH.out
      obtain ⟨c0, c1, c2⟩ := hL k p hp
      have hpm : p ∈ L := List.mem_of_getElem? hp
      obtain ⟨ao, co, evo, _⟩ := (hP p hpm).1.sln
      obtain ⟨af, cf, evf, _⟩ := (hP p hpm).2.sln
      rw [evo] at c1
      rw [evf] at c2
      have d0 := (hB.cell (p := ⟨b, off + k * 3, none⟩) hb).trans c0
      have d1 := (hB.cell (p := ⟨b, off + k * 3 + 1, none⟩) hb).trans c1
      have d2 := (hB.cell (p := ⟨b, off + k * 3 + 2, none⟩) hb).trans c2
      have hB0 : Below w.heap.size w (wr.alloc (.cells #[.string (bs p.nm), .slice ao p.of.length co, .slice af p.fs.length cf] 70)) := b_allocK hB (Nat.le_refl _) _
      have hlen : (L.take k).length = k := List.length_take_of_le hk
      have hsub : ∀ x ∈ L.take k ++ [p], x ∈ L := fun x hx => by
        rw [← takeK hp] at hx; exact List.mem_of_mem_take hx
      have cc := checkKind_some b off cap (L.take k) p _ (Nat.lt_of_lt_of_le hb hB0.size) (by rw [← takeK hp]; exact (hL.on hb hB0).take _) ((hP.on hB0).sub hsub) HG.out.2.small (fun x hx => hz x (hsub x hx)) (by omega) (by omega) hcm'
      rw [hlen] at cc
      have HD : Hid (L.drop k = p :: L.drop (k + 1) ∧ L.take (k + 1) = L.take k ++ [p] ∧ L[k]? = some p ∧ (L.take k).length = k) := ⟨dropK hp, takeK hp, hp, hlen⟩
      have HB0 : Hid (Below w.heap.size w (wr.alloc (.cells #[.string (bs p.nm), .slice ao p.of.length co, .slice af p.fs.length cf] 70))) := hB0
      have hbr : b < wr.heap.size := Nat.lt_of_lt_of_le hb hB.size
      have hk1 : (k : Int) + 1 ≤ (cap : Int) := by omega
      clear hL hP hz hcm' c0 c1 c2 hpm evo evf hp hlen hsub hB0
      by_cases he : kErr (L.take k) p = 0
      · rw [he, errV_0] at cc
        have HS : Hid (ksErr L = ksGo (L.take (k + 1)) (L.drop (k + 1)) ∧ Good (L.take (k + 1))) := by
          obtain ⟨h1, h2⟩ := HG.out
          obtain ⟨e1, e2, e3, e4⟩ := HD.out
          refine ⟨?_, ?_⟩
          · rw [h1, e1, e2]
            conv => lhs; unfold ksGo
            rw [if_pos he]
          · intro i x hx
            rw [List.getElem?_take] at hx
            split at hx
            · rename_i hi
              rw [List.take_take, Nat.min_eq_left (by omega)]
              by_cases hik : i = k
              · subst hik
                rw [e3] at hx
                obtain rfl := Option.some.inj hx
                exact he
              · have := h2 i x (by rw [List.getElem?_take, if_pos (by omega)]; exact hx)
                rwa [List.take_take, Nat.min_eq_left (by omega)] at this
            · cases hx
        clear HG he
        go_wp2_with (go_at_call 36; refine cc.mono ?_; rintro e w' ⟨rfl, hB1⟩)
        go_roundw
        case rel => exact ⟨k + 1, by omega, by go_num, HS.out, on1K HB0.out hB1 (Nat.le_refl _)⟩
        case measure => simp [intOf]; omega
      · rw [errV_ne he] at cc
        have HS : Hid (ksErr L = (p.nm, kErr (L.take k) p) ∧ ¬ kErr (L.take k) p = 0) := by
          refine ⟨?_, he⟩
          rw [HG.out.1, HD.out.1]
          conv => lhs; unfold ksGo
          rw [if_neg he]
        clear HG he
        go_wp2_with (go_at_call 36; refine cc.mono ?_; rintro e W1 ⟨rfl, hB1⟩; refine Hid.out ?_)
        refine Lib.hid ?_
        have g0 := hB1.cell (p := ⟨wr.heap.size, 0, none⟩) (by simp)
        simp at g0
        clear cc
        go_wp2
        go_ret2
        exact ⟨ret_v (by rw [HS.out.1, errV_ne HS.out.2]; rfl), on1K HB0.out hB1 (Nat.le_refl _)⟩
    · have hd : L.drop k = [] := List.drop_eq_nil_of_le (by omega)
      have H : Hid (ksErr L = ([], 0)) := by
        show _ = _
        rw [HG.out.1, hd]; rfl
      clear HG hd
      go_wp2
      go_ret2
      exact ⟨ret_v (by rw [H.out]; rfl), hB⟩
set_option maxHeartbeats 1000000 in
theorem check_nil (w : World) : Calls Try.prog 24 #[.slice none 0 0] w fun e w' => e = .returned (.tuple #[.string (bs (ksErr []).1), errV (ksErr []).2]) ∧ Below w.heap.size w w' := by
  go_enter Try.func24, Try.ntmps24
  go_wp2
  go_loopw [13] (fun i wr => i = .int .i64 0 ∧ wr = w) (fun i _ => 0)
  case atStart => exact ⟨rfl, rfl⟩
  case round =>
    obtain ⟨rfl, rfl⟩ := hrel
    go_wp2
    go_ret2
    exact ⟨rfl, Below.refl _ _⟩
set_option maxHeartbeats 1000000 in
theorem check_many (ao : Option Addr) (n cap : Nat) (w : World) (h : 12 < n) (hm : n ≤ maxLen) : Calls Try.prog 24 #[.slice ao n cap] w fun e w' => e = .returned (.tuple #[.string ⟨#[]⟩, .iface 78 (.int .i64 4)]) ∧ Below w.heap.size w w' := by
  unfold maxLen at hm
  go_enter Try.func24, Try.ntmps24
  go_wp2
  go_ret2
  exact ⟨rfl, Below.refl _ _⟩
theorem kcheck_any {v : Value} {L : List Kd} {w : World} (h : IsK w v L) (hP : Parts w L) (hz : SzK L) : Calls Try.prog 24 #[v] w fun e w' => e = .returned (.tuple #[.string (bs (ksErr L).1), errV (ksErr L).2]) ∧ Below w.heap.size w w' := by
  rcases h with ⟨rfl, rfl⟩ | ⟨b, off, cap, rfl, hc, hm, hb, hl⟩
  · exact check_nil w
  · by_cases h8 : 12 < L.length
    · have e : ksErr L = ([], 4) := by unfold ksErr; rw [if_pos h8]
      rw [e]; exact check_many _ _ _ _ h8 (by omega)
    · exact check_some b off cap L w hb hl hP hz (by omega) hc hm

/-- Where it is; 0 with a fault. -/
def fAt (L : List Kd) (a : Nm) : Int := if nmErr L a = 0 then idxK a L 0 else 0
theorem ksErr_len {L : List Kd} (h : (ksErr L).2 = 0) : L.length ≤ 12 := (ksErr_good.1 h).2
set_option maxHeartbeats 4000000 in
set_option maxRecDepth 100000 in
theorem find_any {v : Value} {L : List Kd} {w : World} (h : IsK w v L) (hP : Parts w L) (hz : SzK L) (a : Nm) :
    Calls Try.prog 40 #[v, .string (bs a)] w fun e w' => e = .returned (.tuple #[.int .i64 (fAt L a), errV (nmErr L a)]) ∧ Below w.heap.size w w' := by
  have c1 := kcheck_any h hP hz
  by_cases e1 : (ksErr L).2 = 0
  · have hn := ksErr_len e1
    have H2 : Hid (IsK w v L ∧ L.length ≤ 12 ∧ (ksErr L).2 = 0) := ⟨h, hn, e1⟩
    rw [e1, errV_0] at c1
    generalize bs (ksErr L).1 = nm at c1
    rcases idxK_spec a L 0 with hx | ⟨j, q, hx, hq, _⟩
    · have HE : Hid (nmErr L a = 5 ∧ fAt L a = 0 ∧ idxK a L 0 = -1) := by
        have e5 : nmErr L a = 5 := by unfold nmErr; rw [if_pos e1, if_pos hx]
        exact ⟨e5, by unfold fAt; rw [if_neg (by rw [e5]; decide)], hx⟩
      clear h hz e1 hn hx hP
      go_enter Try.func40, Try.ntmps40
      go_wp2_with (go_at_call 24; refine c1.mono ?_; rintro e W1 ⟨rfl, hB1⟩; refine Hid.out ?_)
      refine Lib.hid ?_
      have c2 := index_any (H2.out.1.on hB1) H2.out.2.1 a
      rw [HE.out.2.2] at c2
      clear c1
      go_wp2_with (go_at_call 52; refine c2.mono ?_; rintro e W2 ⟨rfl, hB2⟩)
      go_ret2
      exact ⟨ret_v (by rw [HE.out.1, HE.out.2.1]; rfl), on1K hB1 hB2 (Nat.le_refl _)⟩
    · have hj : j < L.length := (List.getElem?_eq_some_iff.1 hq).1
      have HE : Hid (nmErr L a = 0 ∧ fAt L a = j ∧ idxK a L 0 = j) := by
        have hx' : idxK a L 0 = (j : Int) := by simpa using hx
        have e5 : nmErr L a = 0 := by unfold nmErr; rw [if_pos e1, if_neg (by rw [hx']; omega)]
        exact ⟨e5, by unfold fAt; rw [if_pos e5, hx'], hx'⟩
      have hj8 : j < 12 := by omega
      clear h hz e1 hx hq hn hj hP
      go_enter Try.func40, Try.ntmps40
      go_wp2_with (go_at_call 24; refine c1.mono ?_; rintro e W1 ⟨rfl, hB1⟩; refine Hid.out ?_)
      refine Lib.hid ?_
      have c2 := index_any (H2.out.1.on hB1) H2.out.2.1 a
      rw [HE.out.2.2] at c2
      clear c1
      go_wp2_with (go_at_call 52; refine c2.mono ?_; rintro e W2 ⟨rfl, hB2⟩)
      go_ret2
      exact ⟨ret_v (by rw [HE.out.1, HE.out.2.1]; rfl), on1K hB1 hB2 (Nat.le_refl _)⟩
  · have HE : Hid (nmErr L a = (ksErr L).2 ∧ ¬ (ksErr L).2 = 0 ∧ fAt L a = 0) := by
      have e5 : nmErr L a = (ksErr L).2 := by unfold nmErr; rw [if_neg e1]
      exact ⟨e5, e1, by unfold fAt; rw [if_neg (by rw [e5]; exact e1)]⟩
    rw [errV_ne e1] at c1
    generalize bs (ksErr L).1 = nm at c1
    clear h hz e1 hP
    go_enter Try.func40, Try.ntmps40
    go_wp2_with (go_at_call 24; refine c1.mono ?_; rintro e W1 ⟨rfl, hB1⟩)
    go_ret2
    exact ⟨ret_v (by rw [HE.out.1, errV_ne HE.out.2.1, HE.out.2.2]; rfl), hB1⟩

/-- All that a name without a fault tells. -/
theorem nmErr_zero {L : List Kd} {a : Nm} (h : nmErr L a = 0) : Good L ∧ L.length ≤ 12 ∧ ∃ j q, idxK a L 0 = ((j : Nat) : Int) ∧ nmAt L a = j ∧ L[j]? = some q ∧ q.nm = a := by
  unfold nmErr at h
  split at h
  · rename_i h1
    split at h
    · exact absurd h (by decide)
    · rename_i h2
      obtain ⟨g1, g2⟩ := ksErr_good.1 h1
      obtain ⟨j, q, e1, e2, e3⟩ := idxK_has h2
      exact ⟨g1, g2, j, q, e1, by unfold nmAt; rw [e1]; rfl, e2, e3⟩
  · rename_i h1; exact absurd h h1
/-- kinOf of the first ones. -/
theorem kinTake {b off cap : Nat} {L : List Kd} {w : World} (hb : b < w.heap.size) (hL : LiesK w b off L) (hP : Parts w L) (hS : Small L) (hn : L.length ≤ 12) {i : Nat} {z : Kd} (hi : L[i]? = some z) :
    Calls Try.prog 41 #[.slice (some ⟨b, off, none⟩) (i + 1) cap] w fun e w' => ∃ v, e = .returned v ∧ w'.ownsRow w.heap.size 70 3 v (kinOf (L.take (i + 1))).length (cellsK (kinOf (L.take (i + 1)))) ∧ Below w.heap.size w w' := by
  have hlt := (List.getElem?_eq_some_iff.1 hi).1
  have hl : (L.take (i + 1)).length = i + 1 := List.length_take_of_le (by omega)
  have c := kinOf_some b off cap (L.take (i + 1)) z w (by rw [takeK hi]; simp) hb (hL.take _) (hP.sub (fun k hk => List.mem_of_mem_take hk)) (fun k hk => hS k (List.mem_of_mem_take hk)) (by omega)
  rw [hl] at c
  exact c
/-- What one of a name has, and all it comes of, has its parts; there are few of them. -/
theorem kin_facts {L : List Kd} (i : Nat) (w : World) (hP : Parts w L) (hS : Small L) (hn : L.length ≤ 12) : Parts w (kinOf (L.take i)) ∧ Small (kinOf (L.take i)) ∧ (kinOf (L.take i)).length ≤ 12 := by
  obtain ⟨h1, h2⟩ := kinOf_sub (L.take i)
  refine ⟨hP.sub (fun k hk => List.mem_of_mem_take (h1 k hk)), fun k hk => hS k (List.mem_of_mem_take (h1 k hk)), ?_⟩
  simp at h2; omega

/-- What Fields gives. -/
def FsPost (w : World) (L : List Kd) (a : Nm) (e : Ending) (w' : World) : Prop :=
  ∃ v, e = .returned (.tuple #[v, errV (nmErr L a)]) ∧ (nmErr L a = 0 → w'.ownsRow w.heap.size 66 4 v (fields L a).length (cellsF (fields L a)) ∧ fieldsOf (kin L a) = some (fields L a) ∧ (fields L a).length ≤ 8) ∧ (¬ nmErr L a = 0 → v = .slice none 0 0) ∧ Below w.heap.size w w'
set_option maxHeartbeats 4000000 in
set_option maxRecDepth 100000 in
theorem fields_any {v : Value} {L : List Kd} {w : World} (h : IsK w v L) (hP : Parts w L) (hz : SzK L) (a : Nm) : Calls Try.prog 27 #[v, .string (bs a)] w (FsPost w L a) := by
  have c1 := find_any h hP hz a
  by_cases e1 : nmErr L a = 0
  · obtain ⟨hG, hn, j, q, hx, hat, hq, hqa⟩ := nmErr_zero e1
    have hjl := (List.getElem?_eq_some_iff.1 hq).1
    have hA : fAt L a = (j : Int) := by unfold fAt; rw [if_pos e1, hx]
    obtain ⟨l, hl1, hl2⟩ := hG.fields hq
    have hkin : kin L a = kinOf (L.take (j + 1)) := by unfold kin; rw [hat]
    have hfl : fields L a = l := by unfold fields; rw [hkin, hl1]; rfl
    rcases h with ⟨rfl, rfl⟩ | ⟨b, off, cap, rfl, hc, hm, hb, hl⟩
    · simp at hq
    · have HH : Hid (LiesK w b off L ∧ Parts w L ∧ Small L ∧ L.length ≤ 12 ∧ L[j]? = some q ∧ fieldsOf (kinOf (L.take (j + 1))) = some l ∧ l.length ≤ 8 ∧ kin L a = kinOf (L.take (j + 1)) ∧ fields L a = l ∧ nmErr L a = 0) := ⟨hl, hP, hG.small, hn, hq, hl1, hl2, hkin, hfl, e1⟩
      rw [hA, e1, errV_0] at c1
      have hj12 : j < 12 := by omega
      have hj1 : (j : Int) + 1 ≤ (cap : Int) := by omega
      unfold maxLen at hm
      clear hz e1 hG hx hat hq hqa hA hl1 hl2 hkin hfl hl hP
      go_enter Try.func27, Try.ntmps27
      go_wp2_with (go_at_call 40; refine c1.mono ?_; rintro e W1 ⟨rfl, hB1⟩; refine Hid.out ?_)
      refine Lib.hid ?_
      have c2 := kinTake (cap := cap) (Nat.lt_of_lt_of_le hb hB1.size) (HH.out.1.on hb hB1) (HH.out.2.1.on hB1) HH.out.2.2.1 HH.out.2.2.2.1 HH.out.2.2.2.2.1
      clear c1
      go_wp2_with (go_at_call 41; refine c2.mono ?_; rintro e W2 ⟨v2, rfl, hown2, hB2⟩; refine Hid.out ?_)
      refine Lib.hid ?_
      have hBw2 := on1K hB1 hB2 (Nat.le_refl _)
      obtain ⟨f1, f2, f3⟩ := kin_facts (j + 1) W2 (HH.out.2.1.on hBw2) HH.out.2.2.1 HH.out.2.2.2.1
      have c3 := fieldsOf_any (own_isK hown2) f1 f2 f3
      rw [HH.out.2.2.2.2.2.1] at c3
      clear c2 f1 f2 f3 hown2
      go_wp2_with (go_at_call 42; refine c3.mono ?_; rintro e W3 ⟨v3, rfl, hown3, hno3, hB3⟩; refine Hid.out ?_)
      refine Lib.hid ?_
      have hO := hown3 l rfl
      rw [show errV (fErr (some l)) = .nilIface from rfl]
      have hBw3 := on1K hBw2 hB3 (Nat.le_refl _)
      obtain ⟨a3, n3, rfl⟩ := own_slice hO
      have HO : Hid (W3.ownsRow W2.heap.size 66 4 (.slice a3 l.length n3) l.length (cellsF l)) := hO
      clear c3 hown3 hno3 hO
      go_wp2
      go_ret2
      refine ⟨_, ret_v (by rw [HH.out.2.2.2.2.2.2.2.2.2]; rfl), fun _ => ?_, fun h => absurd HH.out.2.2.2.2.2.2.2.2.2 h, hBw3⟩
      rw [HH.out.2.2.2.2.2.2.2.2.1, HH.out.2.2.2.2.2.2.2.1]
      exact ⟨own_base HO.out hBw2.size, HH.out.2.2.2.2.2.1, HH.out.2.2.2.2.2.2.1⟩
  · have hA : fAt L a = 0 := by unfold fAt; rw [if_neg e1]
    have HE : Hid (¬ nmErr L a = 0) := e1
    rw [errV_ne e1, hA] at c1
    clear h hP hz e1 hA
    go_enter Try.func27, Try.ntmps27
    go_wp2_with (go_at_call 40; refine c1.mono ?_; rintro e W1 ⟨rfl, hB1⟩)
    go_ret2
    exact ⟨.slice none 0 0, ret_v (by rw [errV_ne HE.out]; rfl), fun h => absurd h HE.out, fun _ => rfl, hB1⟩
end Go.Proofs.Ytjjnfnlkfojehaa
