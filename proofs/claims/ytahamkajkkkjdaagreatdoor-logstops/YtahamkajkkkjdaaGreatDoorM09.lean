import Derived.Test.YtahamkajkkkjdaaGreatDoorM08
import Derived.Lib.ItoaLen
import Derived.Lib.Join
namespace Go.Proofs.YtahamkajkkkjdaaGreatDoor
open Go.RowKit
set_option linter.unusedVariables false
set_option linter.unusedSimpArgs false
set_option maxHeartbeats 8000000 in
set_option maxRecDepth 100000 in
theorem check_some (b off cap : Nat) (L : List Kd) (w : World) (hb : b < w.heap.size) (hL : LiesK w b off L) (hP : Parts w L) (hz : SzK L) (hn : L.length ≤ 12) (hc : L.length ≤ cap) (hcm : cap ≤ maxLen) :
    Calls Tryz.prog 18 #[.slice (some ⟨b, off, none⟩) L.length cap] w fun e w' => e = .returned (.tuple #[.string (bs (ksErr L).1), errV (ksErr L).2]) ∧ Below w.heap.size w w' := by
  have HH : Hid (LiesK w b off L ∧ Parts w L ∧ SzK L ∧ cap ≤ maxLen ∧ ksErr L = ksGo [] L) := ⟨hL, hP, hz, hcm, by unfold ksErr; rw [if_neg (by omega)]⟩
  unfold maxLen at hcm
  clear hL hP hz
  go_enter Tryz.func18, Tryz.ntmps18
  go_wp2
  go_loopw [13] (fun i wr => ∃ k : Nat, k ≤ L.length ∧ i = .int .i64 k ∧ (ksErr L = ksGo (L.take k) (L.drop k) ∧ Good (L.take k)) ∧ Below w.heap.size w wr) (fun i _ => L.length - (intOf i).toNat)
  case atStart => exact ⟨0, Nat.zero_le _, rfl, ⟨by rw [HH.out.2.2.2.2]; rfl, fun i k hk => by simp at hk⟩, Below.refl _ _⟩
  case round =>
    obtain ⟨k, hk, rfl, hg, hB⟩ := hrel
    have HG : Hid (ksErr L = ksGo (L.take k) (L.drop k) ∧ Good (L.take k)) := hg
    clear hg
    by_cases hlt : k < L.length
    · obtain ⟨p, hp⟩ : ∃ p, L[k]? = some p := ⟨L[k], by simp [hlt]⟩
      obtain ⟨hL, hP, hz, hcm', _⟩ := HH.out
      obtain ⟨c0, c1, c2⟩ := hL k p hp
      have hpm : p ∈ L := List.mem_of_getElem? hp
      obtain ⟨ao, co, evo, _⟩ := (hP p hpm).1.sln
      obtain ⟨af, cf, evf, _⟩ := (hP p hpm).2.sln
      rw [evo] at c1
      rw [evf] at c2
      have d0 := (hB.cell (p := ⟨b, off + k * 3, none⟩) hb).trans c0
      have d1 := (hB.cell (p := ⟨b, off + k * 3 + 1, none⟩) hb).trans c1
      have d2 := (hB.cell (p := ⟨b, off + k * 3 + 2, none⟩) hb).trans c2
      have hB0 : Below w.heap.size w (wr.alloc (.cells #[.string (bs p.nm), .slice ao p.of.length co, .slice af p.fs.length cf] 30)) := b_allocKC hB (Nat.le_refl _) _
      have hlen : (L.take k).length = k := List.length_take_of_le hk
      have hsub : ∀ x ∈ L.take k ++ [p], x ∈ L := fun x hx => by
        rw [← takeK hp] at hx; exact List.mem_of_mem_take hx
      have cc := checkKind_some b off cap (L.take k) p _ (Nat.lt_of_lt_of_le hb hB0.size) (by rw [← takeK hp]; exact (hL.on hb hB0).take _) ((hP.on hB0).sub hsub) HG.out.2.small (fun x hx => hz x (hsub x hx)) (by omega) (by omega) hcm'
      rw [hlen] at cc
      have HD : Hid (L.drop k = p :: L.drop (k + 1) ∧ L.take (k + 1) = L.take k ++ [p] ∧ L[k]? = some p ∧ (L.take k).length = k) := ⟨dropK hp, takeK hp, hp, hlen⟩
      have HB0 : Hid (Below w.heap.size w (wr.alloc (.cells #[.string (bs p.nm), .slice ao p.of.length co, .slice af p.fs.length cf] 30))) := hB0
      have hbr : b < wr.heap.size := Nat.lt_of_lt_of_le hb hB.size
      have hk1 : (k : Int) + 1 ≤ (cap : Int) := by omega
      clear hL hP hz hcm' c0 c1 c2 hpm evo evf hp hlen hsub hB0
      by_cases he : kErr (L.take k) p = 0
      · rw [he, errV_0] at cc
        have HS : Hid (ksErr L = ksGo (L.take (k + 1)) (L.drop (k + 1)) ∧ Good (L.take (k + 1))) := by
          obtain ⟨h1, h2⟩ := HG.out
          obtain ⟨e1, e2, e3, e4⟩ := HD.out
          refine ⟨?_, ?_⟩
          · rw [h1, e1, e2]
            conv => lhs; unfold ksGo
            rw [if_pos he]
          · intro i x hx
            rw [List.getElem?_take] at hx
            split at hx
            · rename_i hi
              rw [List.take_take, Nat.min_eq_left (by omega)]
              by_cases hik : i = k
              · subst hik
                rw [e3] at hx
                obtain rfl := Option.some.inj hx
                exact he
              · have := h2 i x (by rw [List.getElem?_take, if_pos (by omega)]; exact hx)
                rwa [List.take_take, Nat.min_eq_left (by omega)] at this
            · cases hx
        clear HG he
        go_wp2_with (go_at_call 24; refine cc.mono ?_; rintro e w' ⟨rfl, hB1⟩)
        go_roundw
        case rel => exact ⟨k + 1, by omega, by go_num, HS.out, on1KC HB0.out hB1 (Nat.le_refl _)⟩
        case measure => simp [intOf]; omega
      · rw [errV_ne he] at cc
        have HS : Hid (ksErr L = (p.nm, kErr (L.take k) p) ∧ ¬ kErr (L.take k) p = 0) := by
          refine ⟨?_, he⟩
          rw [HG.out.1, HD.out.1]
          conv => lhs; unfold ksGo
          rw [if_neg he]
        clear HG he
        go_wp2_with (go_at_call 24; refine cc.mono ?_; rintro e W1 ⟨rfl, hB1⟩; refine Hid.out ?_)
        refine Lib.hid ?_
        have g0 := hB1.cell (p := ⟨wr.heap.size, 0, none⟩) (by simp)
        simp at g0
        clear cc
        go_wp2
        go_ret2
        exact ⟨ret_v (by rw [HS.out.1, errV_ne HS.out.2]; rfl), on1KC HB0.out hB1 (Nat.le_refl _)⟩
    · have hd : L.drop k = [] := List.drop_eq_nil_of_le (by omega)
      have H : Hid (ksErr L = ([], 0)) := by
        show _ = _
        rw [HG.out.1, hd]; rfl
      clear HG hd
      go_wp2
      go_ret2
      exact ⟨ret_v (by rw [H.out]; rfl), hB⟩
set_option maxHeartbeats 1000000 in
theorem check_nil (w : World) : Calls Tryz.prog 18 #[.slice none 0 0] w fun e w' => e = .returned (.tuple #[.string (bs (ksErr []).1), errV (ksErr []).2]) ∧ Below w.heap.size w w' := by
  go_enter Tryz.func18, Tryz.ntmps18
  go_wp2
  go_loopw [13] (fun i wr => i = .int .i64 0 ∧ wr = w) (fun i _ => 0)
  case atStart => exact ⟨rfl, rfl⟩
  case round =>
    obtain ⟨rfl, rfl⟩ := hrel
    go_wp2
    go_ret2
    exact ⟨rfl, Below.refl _ _⟩
set_option maxHeartbeats 1000000 in
theorem check_many (ao : Option Addr) (n cap : Nat) (w : World) (h : 12 < n) (hm : n ≤ maxLen) : Calls Tryz.prog 18 #[.slice ao n cap] w fun e w' => e = .returned (.tuple #[.string ⟨#[]⟩, .iface 76 (.int .i64 4)]) ∧ Below w.heap.size w w' := by
  unfold maxLen at hm
  go_enter Tryz.func18, Tryz.ntmps18
  go_wp2
  go_ret2
  exact ⟨rfl, Below.refl _ _⟩
theorem kcheck_any {v : Value} {L : List Kd} {w : World} (h : IsK w v L) (hP : Parts w L) (hz : SzK L) : Calls Tryz.prog 18 #[v] w fun e w' => e = .returned (.tuple #[.string (bs (ksErr L).1), errV (ksErr L).2]) ∧ Below w.heap.size w w' := by
  rcases h with ⟨rfl, rfl⟩ | ⟨b, off, cap, rfl, hc, hm, hb, hl⟩
  · exact check_nil w
  · by_cases h8 : 12 < L.length
    · have e : ksErr L = ([], 4) := by unfold ksErr; rw [if_pos h8]
      rw [e]; exact check_many _ _ _ _ h8 (by omega)
    · exact check_some b off cap L w hb hl hP hz (by omega) hc hm
def fAt (L : List Kd) (a : Nm) : Int := if nmErr L a = 0 then idxK a L 0 else 0
theorem ksErr_len {L : List Kd} (h : (ksErr L).2 = 0) : L.length ≤ 12 := (ksErr_good.1 h).2
set_option maxHeartbeats 4000000 in
set_option maxRecDepth 100000 in
theorem find_anyC {v : Value} {L : List Kd} {w : World} (h : IsK w v L) (hP : Parts w L) (hz : SzK L) (a : Nm) :
    Calls Tryz.prog 202 #[v, .string (bs a)] w fun e w' => e = .returned (.tuple #[.int .i64 (fAt L a), errV (nmErr L a)]) ∧ Below w.heap.size w w' := by
  have c1 := kcheck_any h hP hz
  by_cases e1 : (ksErr L).2 = 0
  · have hn := ksErr_len e1
    have H2 : Hid (IsK w v L ∧ L.length ≤ 12 ∧ (ksErr L).2 = 0) := ⟨h, hn, e1⟩
    rw [e1, errV_0] at c1
    generalize bs (ksErr L).1 = nm at c1
    rcases idxK_spec a L 0 with hx | ⟨j, q, hx, hq, _⟩
    · have HE : Hid (nmErr L a = 5 ∧ fAt L a = 0 ∧ idxK a L 0 = -1) := by
        have e5 : nmErr L a = 5 := by unfold nmErr; rw [if_pos e1, if_pos hx]
        exact ⟨e5, by unfold fAt; rw [if_neg (by rw [e5]; decide)], hx⟩
      clear h hz e1 hn hx hP
      go_enter Tryz.func202, Tryz.ntmps202
      go_wp2_with (go_at_call 18; refine c1.mono ?_; rintro e W1 ⟨rfl, hB1⟩; refine Hid.out ?_)
      refine Lib.hid ?_
      have c2 := index_anyC (H2.out.1.on hB1) H2.out.2.1 a
      rw [HE.out.2.2] at c2
      clear c1
      go_wp2_with (go_at_call 39; refine c2.mono ?_; rintro e W2 ⟨rfl, hB2⟩)
      go_ret2
      exact ⟨ret_v (by rw [HE.out.1, HE.out.2.1]; rfl), on1KC hB1 hB2 (Nat.le_refl _)⟩
    · have hj : j < L.length := (List.getElem?_eq_some_iff.1 hq).1
      have HE : Hid (nmErr L a = 0 ∧ fAt L a = j ∧ idxK a L 0 = j) := by
        have hx' : idxK a L 0 = (j : Int) := by simpa using hx
        have e5 : nmErr L a = 0 := by unfold nmErr; rw [if_pos e1, if_neg (by rw [hx']; omega)]
        exact ⟨e5, by unfold fAt; rw [if_pos e5, hx'], hx'⟩
      have hj8 : j < 12 := by omega
      clear h hz e1 hx hq hn hj hP
      go_enter Tryz.func202, Tryz.ntmps202
      go_wp2_with (go_at_call 18; refine c1.mono ?_; rintro e W1 ⟨rfl, hB1⟩; refine Hid.out ?_)
      refine Lib.hid ?_
      have c2 := index_anyC (H2.out.1.on hB1) H2.out.2.1 a
      rw [HE.out.2.2] at c2
      clear c1
      go_wp2_with (go_at_call 39; refine c2.mono ?_; rintro e W2 ⟨rfl, hB2⟩)
      go_ret2
      exact ⟨ret_v (by rw [HE.out.1, HE.out.2.1]; rfl), on1KC hB1 hB2 (Nat.le_refl _)⟩
  · have HE : Hid (nmErr L a = (ksErr L).2 ∧ ¬ (ksErr L).2 = 0 ∧ fAt L a = 0) := by
      have e5 : nmErr L a = (ksErr L).2 := by unfold nmErr; rw [if_neg e1]
      exact ⟨e5, e1, by unfold fAt; rw [if_neg (by rw [e5]; exact e1)]⟩
    rw [errV_ne e1] at c1
    generalize bs (ksErr L).1 = nm at c1
    clear h hz e1 hP
    go_enter Tryz.func202, Tryz.ntmps202
    go_wp2_with (go_at_call 18; refine c1.mono ?_; rintro e W1 ⟨rfl, hB1⟩)
    go_ret2
    exact ⟨ret_v (by rw [HE.out.1, errV_ne HE.out.2.1, HE.out.2.2]; rfl), hB1⟩
theorem nmErr_zero {L : List Kd} {a : Nm} (h : nmErr L a = 0) : Good L ∧ L.length ≤ 12 ∧ ∃ j q, idxK a L 0 = ((j : Nat) : Int) ∧ nmAt L a = j ∧ L[j]? = some q ∧ q.nm = a := by
  unfold nmErr at h
  split at h
  · rename_i h1
    split at h
    · exact absurd h (by decide)
    · rename_i h2
      obtain ⟨g1, g2⟩ := ksErr_good.1 h1
      obtain ⟨j, q, e1, e2, e3⟩ := idxK_has h2
      exact ⟨g1, g2, j, q, e1, by unfold nmAt; rw [e1]; rfl, e2, e3⟩
  · rename_i h1; exact absurd h h1
theorem kinTake {b off cap : Nat} {L : List Kd} {w : World} (hb : b < w.heap.size) (hL : LiesK w b off L) (hP : Parts w L) (hS : Small L) (hn : L.length ≤ 12) {i : Nat} {z : Kd} (hi : L[i]? = some z) :
    Calls Tryz.prog 43 #[.slice (some ⟨b, off, none⟩) (i + 1) cap] w fun e w' => ∃ v, e = .returned v ∧ w'.ownsRow w.heap.size 30 3 v (kinOf (L.take (i + 1))).length (cellsK (kinOf (L.take (i + 1)))) ∧ Below w.heap.size w w' := by
  have hlt := (List.getElem?_eq_some_iff.1 hi).1
  have hl : (L.take (i + 1)).length = i + 1 := List.length_take_of_le (by omega)
  have c := kinOf_some b off cap (L.take (i + 1)) z w (by rw [takeK hi]; simp) hb (hL.take _) (hP.sub (fun k hk => List.mem_of_mem_take hk)) (fun k hk => hS k (List.mem_of_mem_take hk)) (by omega)
  rw [hl] at c
  exact c
theorem kin_facts {L : List Kd} (i : Nat) (w : World) (hP : Parts w L) (hS : Small L) (hn : L.length ≤ 12) : Parts w (kinOf (L.take i)) ∧ Small (kinOf (L.take i)) ∧ (kinOf (L.take i)).length ≤ 12 := by
  obtain ⟨h1, h2⟩ := kinOf_sub (L.take i)
  refine ⟨hP.sub (fun k hk => List.mem_of_mem_take (h1 k hk)), fun k hk => hS k (List.mem_of_mem_take (h1 k hk)), ?_⟩
  simp at h2; omega
def FsPost (w : World) (L : List Kd) (a : Nm) (e : Ending) (w' : World) : Prop :=
  ∃ v, e = .returned (.tuple #[v, errV (nmErr L a)]) ∧ (nmErr L a = 0 → w'.ownsRow w.heap.size 56 4 v (fields L a).length (cellsF (fields L a)) ∧ fieldsOf (kin L a) = some (fields L a) ∧ (fields L a).length ≤ 8) ∧ (¬ nmErr L a = 0 → v = .slice none 0 0) ∧ Below w.heap.size w w'
set_option maxHeartbeats 4000000 in
set_option maxRecDepth 100000 in
theorem fields_any {v : Value} {L : List Kd} {w : World} (h : IsK w v L) (hP : Parts w L) (hz : SzK L) (a : Nm) : Calls Tryz.prog 194 #[v, .string (bs a)] w (FsPost w L a) := by
  have c1 := find_anyC h hP hz a
  by_cases e1 : nmErr L a = 0
  · obtain ⟨hG, hn, j, q, hx, hat, hq, hqa⟩ := nmErr_zero e1
    have hjl := (List.getElem?_eq_some_iff.1 hq).1
    have hA : fAt L a = (j : Int) := by unfold fAt; rw [if_pos e1, hx]
    obtain ⟨l, hl1, hl2⟩ := hG.fields hq
    have hkin : kin L a = kinOf (L.take (j + 1)) := by unfold kin; rw [hat]
    have hfl : fields L a = l := by unfold fields; rw [hkin, hl1]; rfl
    rcases h with ⟨rfl, rfl⟩ | ⟨b, off, cap, rfl, hc, hm, hb, hl⟩
    · simp at hq
    · have HH : Hid (LiesK w b off L ∧ Parts w L ∧ Small L ∧ L.length ≤ 12 ∧ L[j]? = some q ∧ fieldsOf (kinOf (L.take (j + 1))) = some l ∧ l.length ≤ 8 ∧ kin L a = kinOf (L.take (j + 1)) ∧ fields L a = l ∧ nmErr L a = 0) := ⟨hl, hP, hG.small, hn, hq, hl1, hl2, hkin, hfl, e1⟩
      rw [hA, e1, errV_0] at c1
      have hj12 : j < 12 := by omega
      have hj1 : (j : Int) + 1 ≤ (cap : Int) := by omega
      unfold maxLen at hm
      clear hz e1 hG hx hat hq hqa hA hl1 hl2 hkin hfl hl hP
      go_enter Tryz.func194, Tryz.ntmps194
      go_wp2_with (go_at_call 202; refine c1.mono ?_; rintro e W1 ⟨rfl, hB1⟩; refine Hid.out ?_)
      refine Lib.hid ?_
      have c2 := kinTake (cap := cap) (Nat.lt_of_lt_of_le hb hB1.size) (HH.out.1.on hb hB1) (HH.out.2.1.on hB1) HH.out.2.2.1 HH.out.2.2.2.1 HH.out.2.2.2.2.1
      clear c1
      go_wp2_with (go_at_call 43; refine c2.mono ?_; rintro e W2 ⟨v2, rfl, hown2, hB2⟩; refine Hid.out ?_)
      refine Lib.hid ?_
      have hBw2 := on1KC hB1 hB2 (Nat.le_refl _)
      obtain ⟨f1, f2, f3⟩ := kin_facts (j + 1) W2 (HH.out.2.1.on hBw2) HH.out.2.2.1 HH.out.2.2.2.1
      have c3 := fieldsOf_any (own_isK hown2) f1 f2 f3
      rw [HH.out.2.2.2.2.2.1] at c3
      clear c2 f1 f2 f3 hown2
      go_wp2_with (go_at_call 42; refine c3.mono ?_; rintro e W3 ⟨v3, rfl, hown3, hno3, hB3⟩; refine Hid.out ?_)
      refine Lib.hid ?_
      have hO := hown3 l rfl
      rw [show errV (fErr (some l)) = .nilIface from rfl]
      have hBw3 := on1KC hBw2 hB3 (Nat.le_refl _)
      obtain ⟨a3, n3, rfl⟩ := own_sliceC hO
      have HO : Hid (W3.ownsRow W2.heap.size 56 4 (.slice a3 l.length n3) l.length (cellsF l)) := hO
      clear c3 hown3 hno3 hO
      go_wp2
      go_ret2
      refine ⟨_, ret_v (by rw [HH.out.2.2.2.2.2.2.2.2.2]; rfl), fun _ => ?_, fun h => absurd HH.out.2.2.2.2.2.2.2.2.2 h, hBw3⟩
      rw [HH.out.2.2.2.2.2.2.2.2.1, HH.out.2.2.2.2.2.2.2.1]
      exact ⟨own_baseC HO.out hBw2.size, HH.out.2.2.2.2.2.1, HH.out.2.2.2.2.2.2.1⟩
  · have hA : fAt L a = 0 := by unfold fAt; rw [if_neg e1]
    have HE : Hid (¬ nmErr L a = 0) := e1
    rw [errV_ne e1, hA] at c1
    clear h hP hz e1 hA
    go_enter Tryz.func194, Tryz.ntmps194
    go_wp2_with (go_at_call 202; refine c1.mono ?_; rintro e W1 ⟨rfl, hB1⟩)
    go_ret2
    exact ⟨.slice none 0 0, ret_v (by rw [errV_ne HE.out]; rfl), fun h => absurd h HE.out, fun _ => rfl, hB1⟩
theorem kinOf_ne {L : List Kd} {z : Kd} (h : L.getLast? = some z) : ¬ kinOf L = [] := by
  unfold kinOf
  rw [h]
  obtain ⟨A, rfl⟩ : ∃ A, L = A ++ [z] := ⟨L.dropLast, by
    have hne : L ≠ [] := fun e => by rw [e] at h; simp at h
    have e1 := List.dropLast_concat_getLast hne
    rw [List.getLast?_eq_some_getLast hne] at h
    rw [Option.some.inj h] at e1
    exact e1.symm⟩
  have h1 : hasN [z.nm] z.nm = true := by unfold hasN; simp
  simp [back, h1]
def nms (K : List Kd) : List Nm := K.map Kd.nm
def KPost (w : World) (L : List Kd) (a : Nm) (e : Ending) (w' : World) : Prop :=
  ∃ v, e = .returned (.tuple #[v, errV (nmErr L a)]) ∧ (nmErr L a = 0 → w'.ownsRow w.heap.size 9 1 v (nms (kin L a)).length (cellsS (nms (kin L a)))) ∧ (¬ nmErr L a = 0 → v = .slice none 0 0) ∧ Below w.heap.size w w'
def NR (w : World) (kk : List Kd) (v8 i : Value) (wr : World) : Prop :=
  ∃ k : Nat, k ≤ kk.length ∧ i = .int .i64 k ∧ wr.ownsRow w.heap.size 9 1 v8 (nms (kk.take k)).length (cellsS (nms (kk.take k))) ∧ Below w.heap.size w wr
set_option maxHeartbeats 4000000 in
set_option maxRecDepth 100000 in
theorem kin_any {v : Value} {L : List Kd} {w : World} (h : IsK w v L) (hP : Parts w L) (hz : SzK L) (a : Nm) : Calls Tryz.prog 193 #[v, .string (bs a)] w (KPost w L a) := by
  obtain ⟨i0, hi0, hz0, hz1, hz2⟩ := info_parts info9
  have c1 := find_anyC h hP hz a
  by_cases e1 : nmErr L a = 0
  · obtain ⟨hG, hn, j, q, hx, hat, hq, hqa⟩ := nmErr_zero e1
    have hjl := (List.getElem?_eq_some_iff.1 hq).1
    have hA : fAt L a = (j : Int) := by unfold fAt; rw [if_pos e1, hx]
    have hkin : kin L a = kinOf (L.take (j + 1)) := by unfold kin; rw [hat]
    rcases h with ⟨rfl, rfl⟩ | ⟨b, off, cap, rfl, hc, hm, hb, hl⟩
    · simp at hq
    · have HH : Hid (LiesK w b off L ∧ Parts w L ∧ Small L ∧ L.length ≤ 12 ∧ L[j]? = some q ∧ kin L a = kinOf (L.take (j + 1)) ∧ nmErr L a = 0) := ⟨hl, hP, hG.small, hn, hq, hkin, e1⟩
      rw [hA, e1, errV_0] at c1
      have hj12 : j < 12 := by omega
      have hj1 : (j : Int) + 1 ≤ (cap : Int) := by omega
      unfold maxLen at hm
      clear hz e1 hG hx hat hq hqa hA hkin hl hP
      go_enter Tryz.func193, Tryz.ntmps193
      go_wp2_with (go_at_call 202; refine c1.mono ?_; rintro e W1 ⟨rfl, hB1⟩; refine Hid.out ?_)
      refine Lib.hid ?_
      have c2 := kinTake (cap := cap) (Nat.lt_of_lt_of_le hb hB1.size) (HH.out.1.on hb hB1) (HH.out.2.1.on hB1) HH.out.2.2.1 HH.out.2.2.2.1 HH.out.2.2.2.2.1
      clear c1
      go_wp2_with (go_at_call 43; refine c2.mono ?_; rintro e W2 ⟨v2, rfl, hown2, hB2⟩; refine Hid.out ?_)
      refine Lib.hid ?_
      have hBw2 := on1KC hB1 hB2 (Nat.le_refl _)
      obtain ⟨f1, f2, f3⟩ := kin_facts (j + 1) W2 (HH.out.2.1.on hBw2) HH.out.2.2.1 HH.out.2.2.2.1
      have hne : ¬ kinOf (L.take (j + 1)) = [] := kinOf_ne (z := q) (by rw [takeK HH.out.2.2.2.2.1]; simp)
      have HKE : Hid (kin L a = kinOf (L.take (j + 1)) ∧ nmErr L a = 0) := HH.out.2.2.2.2.2
      have hK := own_isK hown2
      obtain ⟨kk, hkk⟩ : ∃ kk, kk = kinOf (L.take (j + 1)) := ⟨_, rfl⟩
      rw [← hkk] at f1 f2 f3 hne hK HKE
      clear c2 hown2 hkk HH
      rcases hK with ⟨_, h0⟩ | ⟨bk, ok, ck, rfl, hck, hckm, hbk, hlk⟩
      · exact absurd h0 hne
      · have HK : Hid (LiesK W2 bk ok kk ∧ Parts W2 kk) := ⟨hlk, f1⟩
        have HB2 : Hid (Below w.heap.size w W2) := hBw2
        clear hlk f1 f2 hne hB1 hB2 hBw2
        go_wp2
        go_loopw [8, 26] (fun v8 i wr => NR W2 kk v8 i wr) (fun _ i _ => kk.length - (intOf i).toNat)
        case atStart => exact ⟨0, Nat.zero_le _, rfl, World.ownsRow_nil _ _ _ _, Below.refl _ _⟩
        case round =>
          obtain ⟨k, hk, rfl, ho, hB⟩ := hrel
          by_cases hlt : k < kk.length
          · obtain ⟨p, hp⟩ : ∃ p, kk[k]? = some p := ⟨kk[k], by simp [hlt]⟩
            obtain ⟨c0, c1, c2⟩ := HK.out.1 k p hp
            have hpm : p ∈ kk := List.mem_of_getElem? hp
            obtain ⟨ao, no, co, evo⟩ := (HK.out.2 p hpm).1.sl
            obtain ⟨af, nf, cf, evf⟩ := (HK.out.2 p hpm).2.sl
            rw [evo] at c1
            rw [evf] at c2
            have d0 := (hB.cell (p := ⟨bk, ok + k * 3, none⟩) hbk).trans c0
            have d1 := (hB.cell (p := ⟨bk, ok + k * 3 + 1, none⟩) hbk).trans c1
            have d2 := (hB.cell (p := ⟨bk, ok + k * 3 + 2, none⟩) hbk).trans c2
            have HD : Hid (kk.take (k + 1) = kk.take k ++ [p]) := takeK hp
            have hbr : bk < wr.heap.size := Nat.lt_of_lt_of_le hbk hB.size
            have hln : (nms (kk.take k)).length = k := by unfold nms; rw [List.length_map, List.length_take_of_le hk]
            have HM : Hid ((nms (kk.take k)).length + 1 ≤ maxLen ∧ ((nms (kk.take k)).length + 1) * 16 ≤ 140737488355328) := by rw [hln]; unfold maxLen; exact ⟨by omega, by omega⟩
            have hB0 : Below W2.heap.size W2 ((wr.alloc (.cells #[.string (bs p.nm), .slice ao no co, .slice af nf cf] 30)).alloc (.cells #[.string (bs p.nm)] 9)) := b_allocKC (b_allocKC hB (Nat.le_refl _) _) (Nat.le_refl _) _
            have HO : Hid (((wr.alloc (.cells #[.string (bs p.nm), .slice ao no co, .slice af nf cf] 30)).alloc (.cells #[.string (bs p.nm)] 9)).ownsRow W2.heap.size 9 1 u8 (nms (kk.take k)).length (cellsS (nms (kk.take k))) ∧ Below W2.heap.size W2 ((wr.alloc (.cells #[.string (bs p.nm), .slice ao no co, .slice af nf cf] 30)).alloc (.cells #[.string (bs p.nm)] 9))) := ⟨(ho.alloc _).alloc _, hB0⟩
            clear c0 c1 c2 hpm hp ho hB hB0 hln evo evf
            go_wp2_with (at_builtin; refine wpList_append_own _ rfl (.tmp 30) (.tmp 33) 27 rfl W2.heap.size 9 i0 _ 1 16 Tryz.underlying27 hi0 hz0 hz1 hz2 rfl (by decide) u8 (nms (kk.take k)).length (cellsS (nms (kk.take k))) rfl HO.out.1 ⟨wr.heap.size + 1, 0, none⟩ 1 1 [.string (bs p.nm)] (by simp [Act.eval]) rfl (by have := new_atC (wr.alloc (.cells #[.string (bs p.nm), .slice ao no co, .slice af nf cf] 30)) [.string (bs p.nm)] 9; simpa using this) (by simp [Value.oneCell']) HM.out.1 HM.out.2 HO.out.2.size ?_; intro v1 w1 hown1 hgrow1 _; refine Hid.out ?_)
            refine Lib.hid ?_
            have R : NR W2 kk v1 (.int .i64 ((k + 1 : Nat) : Int)) w1 := by
              refine ⟨k + 1, by omega, rfl, ?_, HO.out.2.grown hgrow1 HO.out.2.size (fun k hk => (HO.out.1.lt k hk).1)⟩
              rw [HD.out]; unfold nms at *
              rw [List.map_append, List.length_append, cellsS_app]
              exact hown1
            have HRR : Hid (NR W2 kk v1 (.int .i64 ((k + 1 : Nat) : Int)) w1) := R
            clear R hown1
            go_wp2
            refine ⟨?_, ?_⟩
            · first | exact HRR.out | ((repeat apply Exists.intro); refine ⟨?_, rfl⟩; exact HRR.out)
            · simp [intOf]
              try omega
          · have hke : kk.take k = kk := List.take_of_length_le (by omega)
            rw [hke] at ho
            have HO : Hid (wr.ownsRow W2.heap.size 9 1 u8 (nms kk).length (cellsS (nms kk)) ∧ Below W2.heap.size W2 wr) := ⟨ho, hB⟩
            clear ho hB hke
            go_wp2
            go_ret2
            refine ⟨_, ret_v (by rw [HKE.out.2]; rfl), fun _ => ?_, fun h => absurd HKE.out.2 h, on1KC HB2.out HO.out.2 (Nat.le_refl _)⟩
            rw [HKE.out.1]
            exact own_baseC HO.out.1 HB2.out.size
  · have hA : fAt L a = 0 := by unfold fAt; rw [if_neg e1]
    have HE : Hid (¬ nmErr L a = 0) := e1
    rw [errV_ne e1, hA] at c1
    clear h hP hz e1 hA
    go_enter Tryz.func193, Tryz.ntmps193
    go_wp2_with (go_at_call 202; refine c1.mono ?_; rintro e W1 ⟨rfl, hB1⟩)
    go_ret2
    exact ⟨.slice none 0 0, ret_v (by rw [errV_ne HE.out]; rfl), fun h => absurd h HE.out, fun _ => rfl, hB1⟩
structure Bd where
  nm : Nm
  fr : Nm
  tt : Nm
  mn : Int
  mx : Int
def Bd.cells (x : Bd) : List Value := [.string (bs x.nm), .string (bs x.fr), .string (bs x.tt), .int .i64 x.mn, .int .i64 x.mx]
abbrev Bd.one (x : Bd) : Value := .agg #[.string (bs x.nm), .string (bs x.fr), .string (bs x.tt), .int .i64 x.mn, .int .i64 x.mx]
def LiesB (w : World) (b off : Nat) (l : List Bd) : Prop := ∀ i x, l[i]? = some x →
  w.cell? ⟨b, off + i * 5, none⟩ = some (.string (bs x.nm)) ∧ w.cell? ⟨b, off + i * 5 + 1, none⟩ = some (.string (bs x.fr)) ∧ w.cell? ⟨b, off + i * 5 + 2, none⟩ = some (.string (bs x.tt)) ∧ w.cell? ⟨b, off + i * 5 + 3, none⟩ = some (.int .i64 x.mn) ∧ w.cell? ⟨b, off + i * 5 + 4, none⟩ = some (.int .i64 x.mx)
def IsB (w : World) (v : Value) (l : List Bd) : Prop :=
  (v = .slice none 0 0 ∧ l = []) ∨ ∃ b off cap, v = .slice (some ⟨b, off, none⟩) l.length cap ∧ l.length ≤ cap ∧ cap ≤ maxLen ∧ b < w.heap.size ∧ LiesB w b off l
def SzB (l : List Bd) : Prop := ∀ x ∈ l, x.nm.length ≤ maxLen
theorem LiesB.on {w w' : World} {b off : Nat} {l : List Bd} (h : LiesB w b off l) (hb : b < w.heap.size) (hB : Below w.heap.size w w') : LiesB w' b off l := fun k p hp => by
  obtain ⟨c0, c1, c2, c3, c4⟩ := h k p hp
  exact ⟨(hB.cell hb).trans c0, (hB.cell hb).trans c1, (hB.cell hb).trans c2, (hB.cell hb).trans c3, (hB.cell hb).trans c4⟩
theorem IsB.on {w w' : World} {v : Value} {l : List Bd} (h : IsB w v l) (hB : Below w.heap.size w w') : IsB w' v l := by
  rcases h with h | ⟨b, off, cap, hv, hc, hm, hb, hl⟩
  · exact .inl h
  · exact .inr ⟨b, off, cap, hv, hc, hm, Nat.lt_of_lt_of_le hb hB.size, hl.on hb hB⟩
theorem LiesB.take {w : World} {b off : Nat} {l : List Bd} (h : LiesB w b off l) (i : Nat) : LiesB w b off (l.take i) := fun k n hn => by
  rw [List.getElem?_take] at hn
  split at hn
  · exact h k n hn
  · cases hn
theorem IsB.sln {w : World} {v : Value} {l : List Bd} (h : IsB w v l) : ∃ ao c, v = .slice ao l.length c ∧ l.length ≤ maxLen := by
  rcases h with ⟨rfl, rfl⟩ | ⟨b, off, cap, rfl, h1, h2, _⟩
  · exact ⟨_, _, rfl, by unfold maxLen; simp⟩
  · exact ⟨_, _, rfl, by omega⟩
theorem IsK.sln {w : World} {v : Value} {l : List Kd} (h : IsK w v l) : ∃ ao c, v = .slice ao l.length c ∧ l.length ≤ maxLen := by
  rcases h with ⟨rfl, rfl⟩ | ⟨b, off, cap, rfl, h1, h2, _⟩
  · exact ⟨_, _, rfl, by unfold maxLen; simp⟩
  · exact ⟨_, _, rfl, by omega⟩
def idxB (nm : Nm) : List Bd → Nat → Int
  | [], _ => -1
  | p :: r, k => if (p.nm == nm) = true then k else idxB nm r (k + 1)
theorem idxB_spec (nm : Nm) (L : List Bd) : ∀ k, idxB nm L k = -1 ∨ ∃ j q, idxB nm L k = ((k + j : Nat) : Int) ∧ L[j]? = some q ∧ q.nm = nm := by
  induction L with
  | nil => intro k; left; rfl
  | cons p r ih =>
    intro k
    by_cases h : (p.nm == nm) = true
    · right; exact ⟨0, p, by unfold idxB; rw [if_pos h]; simp, rfl, by simpa using h⟩
    · have e : idxB nm (p :: r) k = idxB nm r (k + 1) := by
        conv => lhs; unfold idxB
        rw [if_neg h]
      rw [e]
      rcases ih (k + 1) with h1 | ⟨j, q, h1, h2, h3⟩
      · exact .inl h1
      · exact .inr ⟨j + 1, q, by rw [h1]; congr 1; omega, by simpa using h2, h3⟩
def inRB (mn mx : Int) : Bool := decide (0 ≤ mn ∧ mn ≤ 20 ∧ (mx = -1 ∨ (mn ≤ mx ∧ mx ≤ 20)))
def hasK (L : List Kd) (n : Nm) : Bool := decide (0 ≤ idxK n L 0)
def bErr (L : List Kd) (A : List Bd) (x : Bd) : Int :=
  if nErr x.nm = 0 then (if idxB x.nm A 0 = -1 then (if hasK L x.fr = true then (if hasK L x.tt = true then (if inRB x.mn x.mx = true then 0 else 1) else 5) else 5) else 7) else nErr x.nm
def bsGo (L : List Kd) : List Bd → List Bd → Nm × Int
  | _, [] => ([], 0)
  | A, x :: r => if bErr L A x = 0 then bsGo L (A ++ [x]) r else (x.nm, bErr L A x)
def sErr (L : List Kd) (B : List Bd) : Nm × Int := if (ksErr L).2 = 0 then (if 12 < B.length then ([], 4) else bsGo L [] B) else ksErr L
def GoodB (L : List Kd) (B : List Bd) : Prop := ∀ i x, B[i]? = some x → bErr L (B.take i) x = 0
theorem bsGo_good (L : List Kd) (B : List Bd) : ∀ A, (bsGo L A B).2 = 0 ↔ ∀ i x, B[i]? = some x → bErr L (A ++ B.take i) x = 0 := by
  induction B with
  | nil => intro A; simp [bsGo]
  | cons k r ih =>
    intro A
    constructor
    · intro h i x hx
      unfold bsGo at h
      split at h
      · rename_i h0
        cases i with
        | zero =>
          obtain rfl : k = x := by simpa using hx
          simpa using h0
        | succ i =>
          have := (ih (A ++ [k])).1 h i x (by simpa using hx)
          simpa [List.append_assoc] using this
      · rename_i h0; exact absurd h h0
    · intro h
      have h0 : bErr L A k = 0 := by simpa using h 0 k rfl
      unfold bsGo
      rw [if_pos h0]
      refine (ih (A ++ [k])).2 fun i x hx => ?_
      have := h (i + 1) x (by simpa using hx)
      simpa [List.append_assoc] using this
theorem sErr_good {L : List Kd} {B : List Bd} : (sErr L B).2 = 0 ↔ (ksErr L).2 = 0 ∧ GoodB L B ∧ B.length ≤ 12 := by
  unfold sErr
  by_cases h1 : (ksErr L).2 = 0
  · rw [if_pos h1]
    by_cases h2 : 12 < B.length
    · rw [if_pos h2]
      exact ⟨fun h => by simp at h, fun ⟨_, _, h⟩ => by omega⟩
    · rw [if_neg h2, bsGo_good]
      constructor
      · intro h; exact ⟨h1, fun i x hx => by simpa using h i x hx, by omega⟩
      · rintro ⟨_, h, _⟩ i x hx; simpa using h i x hx
  · rw [if_neg h1]
    exact ⟨fun h => absurd h h1, fun ⟨h, _⟩ => absurd h h1⟩
theorem bErr_zero {L : List Kd} {A : List Bd} {x : Bd} (h : bErr L A x = 0) : nErr x.nm = 0 ∧ idxB x.nm A 0 = -1 ∧ hasK L x.fr = true ∧ hasK L x.tt = true ∧ inRB x.mn x.mx = true := by
  unfold bErr at h
  split at h
  · rename_i h1
    split at h
    · rename_i h2
      split at h
      · rename_i h3
        split at h
        · rename_i h4
          split at h
          · rename_i h5; exact ⟨h1, h2, h3, h4, h5⟩
          · exact absurd h (by decide)
        · exact absurd h (by decide)
      · exact absurd h (by decide)
    · exact absurd h (by decide)
  · rename_i h1; exact absurd h h1
theorem inR_iff {mn mx : Int} : inRB mn mx = true ↔ 0 ≤ mn ∧ mn ≤ 20 ∧ (mx = -1 ∨ (mn ≤ mx ∧ mx ≤ 20)) := by unfold inRB; simp
end Go.Proofs.YtahamkajkkkjdaaGreatDoor
