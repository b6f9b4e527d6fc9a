/-
  The walks of kind.Check, find, Fields and Is.
-/
import Derived.Test.YtkmkhadacppdnaaGreatDoorM06
import Derived.Deep.LoopGhost
import Derived.Deep.OwnRows
namespace Go.Proofs.YtkmkhadacppdnaaGreatDoor
open Go.RowKit
set_option linter.unusedVariables false
set_option linter.unusedSimpArgs false

set_option maxHeartbeats 8000000 in
set_option maxRecDepth 100000 in
theorem check_some (b off cap : Nat) (L : List Kd) (w : World) (hb : b < w.heap.size) (hL : LiesK w b off L) (hP : Parts w L) (hz : SzK L) (hn : L.length ≤ 12) (hc : L.length ≤ cap) (hcm : cap ≤ maxLen) :
    Calls Tryz.prog 35 #[.slice (some ⟨b, off, none⟩) L.length cap] w fun e w' => e = .returned (.tuple #[.string (bs (ksErr L).1), errV (ksErr L).2]) ∧ Below w.heap.size w w' := by
  have HH : Hid (LiesK w b off L ∧ Parts w L ∧ SzK L ∧ cap ≤ maxLen ∧ ksErr L = ksGo [] L) := ⟨hL, hP, hz, hcm, by unfold ksErr; rw [if_neg (by omega)]⟩
  unfold maxLen at hcm
  clear hL hP hz
  go_enter Tryz.func35, Tryz.ntmps35
  go_wp2
  go_loopw [13] (fun i wr => ∃ k : Nat, k ≤ L.length ∧ i = .int .i64 k ∧ (ksErr L = ksGo (L.take k) (L.drop k) ∧ Good (L.take k)) ∧ Below w.heap.size w wr) (fun i _ => L.length - (intOf i).toNat)
  case atStart => exact ⟨0, Nat.zero_le _, rfl, ⟨by rw [HH.out.2.2.2.2]; rfl, fun i k hk => by simp at hk⟩, Below.refl _ _⟩
  case round =>
    obtain ⟨k, hk, rfl, hg, hB⟩ := hrel
    have HG : Hid (ksErr L = ksGo (L.take k) (L.drop k) ∧ Good (L.take k)) := hg
    clear hg
    by_cases hlt : k < L.length
    · obtain ⟨p, hp⟩ : ∃ p, L[k]? = some p := ⟨L[k], by simp [hlt]⟩
      obtain ⟨hL, hP, hz, hcm', _⟩ := HH.out
      obtain ⟨c0, c1, c2⟩ := hL k p hp
      have hpm : p ∈ L := List.mem_of_getElem? hp
      obtain ⟨ao, co, evo, _⟩ := (hP p hpm).1.sln
      obtain ⟨af, cf, evf, _⟩ := (hP p hpm).2.sln
      rw [evo] at c1
      rw [evf] at c2
      have d0 := (hB.cell (p := ⟨b, off + k * 3, none⟩) hb).trans c0
      have d1 := (hB.cell (p := ⟨b, off + k * 3 + 1, none⟩) hb).trans c1
      have d2 := (hB.cell (p := ⟨b, off + k * 3 + 2, none⟩) hb).trans c2
      have hB0 : Below w.heap.size w (wr.alloc (.cells #[.string (bs p.nm), .slice ao p.of.length co, .slice af p.fs.length cf] 29)) := b_allocK hB (Nat.le_refl _) _
      have hlen : (L.take k).length = k := List.length_take_of_le hk
      have hsub : ∀ x ∈ L.take k ++ [p], x ∈ L := fun x hx => by
        rw [← takeK hp] at hx; exact List.mem_of_mem_take hx
      have cc := checkKind_some b off cap (L.take k) p _ (Nat.lt_of_lt_of_le hb hB0.size) (by rw [← takeK hp]; exact (hL.on hb hB0).take _) ((hP.on hB0).sub hsub) HG.out.2.small (fun x hx => hz x (hsub x hx)) (by omega) (by omega) hcm'
      rw [hlen] at cc
      have HD : Hid (L.drop k = p :: L.drop (k + 1) ∧ L.take (k + 1) = L.take k ++ [p] ∧ L[k]? = some p ∧ (L.take k).length = k) := ⟨dropK hp, takeK hp, hp, hlen⟩
      have HB0 : Hid (Below w.heap.size w (wr.alloc (.cells #[.string (bs p.nm), .slice ao p.of.length co, .slice af p.fs.length cf] 29))) := hB0
      have hbr : b < wr.heap.size := Nat.lt_of_lt_of_le hb hB.size
      have hk1 : (k : Int) + 1 ≤ (cap : Int) := by omega
      clear hL hP hz hcm' c0 c1 c2 hpm evo evf hp hlen hsub hB0
      by_cases he : kErr (L.take k) p = 0
      · rw [he, errV_0] at cc
        have HS : Hid (ksErr L = ksGo (L.take (k + 1)) (L.drop (k + 1)) ∧ Good (L.take (k + 1))) := by
          obtain ⟨h1, h2⟩ := HG.out
          obtain ⟨e1, e2, e3, e4⟩ := HD.out
          refine ⟨?_, ?_⟩
          · rw [h1, e1, e2]
            conv => lhs; unfold ksGo
            rw [if_pos he]
          · intro i x hx
            rw [List.getElem?_take] at hx
            split at hx
            · rename_i hi
              rw [List.take_take, Nat.min_eq_left (by omega)]
              by_cases hik : i = k
              · subst hik
                rw [e3] at hx
                obtain rfl := Option.some.inj hx
                exact he
              · have := h2 i x (by rw [List.getElem?_take, if_pos (by omega)]; exact hx)
                rwa [List.take_take, Nat.min_eq_left (by omega)] at this
            · cases hx
        clear HG he
        go_wp2_with (go_at_call 48; refine cc.mono ?_; rintro e w' ⟨rfl, hB1⟩)
        go_roundw
        case rel => exact ⟨k + 1, by omega, by go_num, HS.out, on1K HB0.out hB1 (Nat.le_refl _)⟩
        case measure => simp [intOf]; omega
      · rw [errV_ne he] at cc
        have HS : Hid (ksErr L = (p.nm, kErr (L.take k) p) ∧ ¬ kErr (L.take k) p = 0) := by
          refine ⟨?_, he⟩
          rw [HG.out.1, HD.out.1]
          conv => lhs; unfold ksGo
          rw [if_neg he]
        clear HG he
        go_wp2_with (go_at_call 48; refine cc.mono ?_; rintro e W1 ⟨rfl, hB1⟩; refine Hid.out ?_)
        refine Lib.hid ?_
        have g0 := hB1.cell (p := ⟨wr.heap.size, 0, none⟩) (by simp)
        simp at g0
        clear cc
        go_wp2
        go_ret2
        exact ⟨ret_v (by rw [HS.out.1, errV_ne HS.out.2]; rfl), on1K HB0.out hB1 (Nat.le_refl _)⟩
    · have hd : L.drop k = [] := List.drop_eq_nil_of_le (by omega)
      have H : Hid (ksErr L = ([], 0)) := by
        show _ = _
        rw [HG.out.1, hd]; rfl
      clear HG hd
      go_wp2
      go_ret2
      exact ⟨ret_v (by rw [H.out]; rfl), hB⟩
set_option maxHeartbeats 1000000 in
theorem check_nil (w : World) : Calls Tryz.prog 35 #[.slice none 0 0] w fun e w' => e = .returned (.tuple #[.string (bs (ksErr []).1), errV (ksErr []).2]) ∧ Below w.heap.size w w' := by
  go_enter Tryz.func35, Tryz.ntmps35
  go_wp2
  go_loopw [13] (fun i wr => i = .int .i64 0 ∧ wr = w) (fun i _ => 0)
  case atStart => exact ⟨rfl, rfl⟩
  case round =>
    obtain ⟨rfl, rfl⟩ := hrel
    go_wp2
    go_ret2
    exact ⟨rfl, Below.refl _ _⟩
set_option maxHeartbeats 1000000 in
theorem check_many (ao : Option Addr) (n cap : Nat) (w : World) (h : 12 < n) (hm : n ≤ maxLen) : Calls Tryz.prog 35 #[.slice ao n cap] w fun e w' => e = .returned (.tuple #[.string ⟨#[]⟩, .iface 65 (.int .i64 4)]) ∧ Below w.heap.size w w' := by
  unfold maxLen at hm
  go_enter Tryz.func35, Tryz.ntmps35
  go_wp2
  go_ret2
  exact ⟨rfl, Below.refl _ _⟩
theorem kcheck_any {v : Value} {L : List Kd} {w : World} (h : IsK w v L) (hP : Parts w L) (hz : SzK L) : Calls Tryz.prog 35 #[v] w fun e w' => e = .returned (.tuple #[.string (bs (ksErr L).1), errV (ksErr L).2]) ∧ Below w.heap.size w w' := by
  rcases h with ⟨rfl, rfl⟩ | ⟨b, off, cap, rfl, hc, hm, hb, hl⟩
  · exact check_nil w
  · by_cases h8 : 12 < L.length
    · have e : ksErr L = ([], 4) := by unfold ksErr; rw [if_pos h8]
      rw [e]; exact check_many _ _ _ _ h8 (by omega)
    · exact check_some b off cap L w hb hl hP hz (by omega) hc hm

/-- Where it is; 0 with a fault. -/
def fAt (L : List Kd) (a : Nm) : Int := if nmErr L a = 0 then idxK a L 0 else 0
theorem ksErr_len {L : List Kd} (h : (ksErr L).2 = 0) : L.length ≤ 12 := (ksErr_good.1 h).2
/-- All that a name without a fault tells. -/
theorem nmErr_zero {L : List Kd} {a : Nm} (h : nmErr L a = 0) : Good L ∧ L.length ≤ 12 ∧ ∃ j q, idxK a L 0 = ((j : Nat) : Int) ∧ nmAt L a = j ∧ L[j]? = some q ∧ q.nm = a := by
  unfold nmErr at h
  split at h
  · rename_i h1
    split at h
    · exact absurd h (by decide)
    · rename_i h2
      obtain ⟨g1, g2⟩ := ksErr_good.1 h1
      obtain ⟨j, q, e1, e2, e3⟩ := idxK_has h2
      exact ⟨g1, g2, j, q, e1, by unfold nmAt; rw [e1]; rfl, e2, e3⟩
  · rename_i h1; exact absurd h h1
/-- kinOf of the first ones. -/
theorem kinTake {b off cap : Nat} {L : List Kd} {w : World} (hb : b < w.heap.size) (hL : LiesK w b off L) (hP : Parts w L) (hS : Small L) (hn : L.length ≤ 12) {i : Nat} {z : Kd} (hi : L[i]? = some z) :
    Calls Tryz.prog 34 #[.slice (some ⟨b, off, none⟩) (i + 1) cap] w fun e w' => ∃ v, e = .returned v ∧ w'.ownsRow w.heap.size 29 3 v (kinOf (L.take (i + 1))).length (cellsK (kinOf (L.take (i + 1)))) ∧ Below w.heap.size w w' := by
  have hlt := (List.getElem?_eq_some_iff.1 hi).1
  have hl : (L.take (i + 1)).length = i + 1 := List.length_take_of_le (by omega)
  have c := kinOf_some b off cap (L.take (i + 1)) z w (by rw [takeK hi]; simp) hb (hL.take _) (hP.sub (fun k hk => List.mem_of_mem_take hk)) (fun k hk => hS k (List.mem_of_mem_take hk)) (by omega)
  rw [hl] at c
  exact c
/-- What one of a name has, and all it comes of, has its parts; there are few of them. -/
theorem kin_facts {L : List Kd} (i : Nat) (w : World) (hP : Parts w L) (hS : Small L) (hn : L.length ≤ 12) : Parts w (kinOf (L.take i)) ∧ Small (kinOf (L.take i)) ∧ (kinOf (L.take i)).length ≤ 12 := by
  obtain ⟨h1, h2⟩ := kinOf_sub (L.take i)
  refine ⟨hP.sub (fun k hk => List.mem_of_mem_take (h1 k hk)), fun k hk => hS k (List.mem_of_mem_take (h1 k hk)), ?_⟩
  simp at h2; omega

/-- What Fields gives. -/
def FsPost (w : World) (L : List Kd) (a : Nm) (e : Ending) (w' : World) : Prop :=
  ∃ v, e = .returned (.tuple #[v, errV (nmErr L a)]) ∧ (nmErr L a = 0 → w'.ownsRow w.heap.size 33 4 v (fields L a).length (cellsF (fields L a)) ∧ fieldsOf (kin L a) = some (fields L a) ∧ (fields L a).length ≤ 8) ∧ (¬ nmErr L a = 0 → v = .slice none 0 0) ∧ Below w.heap.size w w'
end Go.Proofs.YtkmkhadacppdnaaGreatDoor

/-
  The walks of what the law KindTells asks beside package kind: kinref1's Name, In, Kind; kinsame's Texts and Fields of two lists that are the same.
-/
namespace Go.Proofs.YtkmkhadacppdnaaGreatDoor
open Go.RowKit
set_option linter.unusedVariables false
set_option linter.unusedSimpArgs false
/-- The names of kinds. -/
def nms (K : List Kd) : List Nm := K.map Kd.nm

theorem ret_int {k : IntKind} {a b : Int} (h : a = b) : Ending.returned (.int k a) = .returned (.int k b) := by rw [h]

theorem let_iff (c : UInt8) : (noLet c = true) ↔ ((c.toNat : Int) < 97 ∨ 122 < (c.toNat : Int)) := by unfold noLet; simp
set_option maxHeartbeats 2000000 in
set_option maxRecDepth 100000 in
theorem rname_any (s : ByteArray) (w : World) (hs : s.size ≤ maxLen) :
    Calls Tryz.prog 20 #[.string s] w fun e w' => e = .returned (.int .i64 (nErr s.data.toList)) ∧ w' = w := by
  by_cases hE : s.data.toList = []
  · obtain rfl := list_eq hE
    go_enter Tryz.func20, Tryz.ntmps20
    go_wp2
    go_ret
    exact ⟨rfl, rfl⟩
  · have bE : s.toList.isEmpty = false := nonE s hE
    have bN : ¬ s.toList = [] := by rw [Lib.toList_data]; exact hE
    have hsz := size_len s
    by_cases h8 : 8 < s.size
    · have H1 : Hid (nErr s.data.toList = 2) := by
        show _ = _
        unfold nErr; rw [if_neg hE, if_pos (by omega)]
      clear hE hsz
      unfold maxLen at hs
      go_enter Tryz.func20, Tryz.ntmps20
      go_wp2
      go_ret
      exact ⟨ret_int (by rw [H1.out]), rfl⟩
    · have H1 : Hid (nErr s.data.toList = if hasP noLet s.data.toList = true then 2 else 0) := by
        show _ = _
        unfold nErr; rw [if_neg hE, if_neg (by omega)]
      clear hE hsz
      go_enter Tryz.func20, Tryz.ntmps20
      go_wp2
      go_loop [3] (fun i => ∃ k : Nat, k ≤ s.size ∧ i = .int .i64 k ∧ (s.data.toList.take k).any noLet = false) (fun i => s.size - (intOf i).toNat)
      case atStart => exact ⟨0, Nat.zero_le _, rfl, rfl⟩
      case round =>
        obtain ⟨k, hk, rfl, hno⟩ := hrel
        have HN : Hid ((s.data.toList.take k).any noLet = false) := hno
        clear hno
        by_cases hlt : k < s.size
        · by_cases hb : noLet s[k] = true
          · have HB : Hid (noLet s[k] = true) := hb
            rcases (let_iff _).1 hb with h | h
            all_goals
              clear hb
              go_wp2
              go_ret
              exact ⟨ret_int (by rw [H1.out, if_pos (any_hit _ s k hlt HB.out).symm]), rfl⟩
          · have HB : Hid (noLet s[k] = false) := by show _ = _; simpa using hb
            have h1 : 97 ≤ (s[k].toNat : Int) := by rw [let_iff] at hb; omega
            have h2 : (s[k].toNat : Int) ≤ 122 := by rw [let_iff] at hb; omega
            clear hb
            go_wp2
            go_round
            case rel => exact ⟨k + 1, by omega, by go_num, any_snoc _ s k hlt HN.out HB.out⟩
            case measure => simp [intOf]; omega
        · go_wp2
          go_ret
          exact ⟨ret_int (by rw [H1.out, if_neg (by rw [← any_end _ s k hlt HN.out]; decide)]), rfl⟩

set_option maxHeartbeats 4000000 in
set_option maxRecDepth 100000 in
theorem in_some (b off cap : Nat) (L : List Nm) (s : Nm) (w : World) (hL : LiesS w b off L) (hn : L.length ≤ 1000) :
    Calls Tryz.prog 16 #[.slice (some ⟨b, off, none⟩) L.length cap, .string (bs s)] w fun e w' => e = .returned (.bool (hasN L s)) ∧ w' = w := by
  go_enter Tryz.func16, Tryz.ntmps16
  go_wp2
  go_loop [5] (fun i => ∃ k : Nat, k ≤ L.length ∧ i = .int .i64 k ∧ hasN L s = hasN (L.drop k) s) (fun i => L.length - (intOf i).toNat)
  case atStart => exact ⟨0, Nat.zero_le _, rfl, rfl⟩
  case round =>
    obtain ⟨k, hk, rfl, hi⟩ := hrel
    have HI : Hid (hasN L s = hasN (L.drop k) s) := hi
    clear hi
    by_cases hlt : k < L.length
    · obtain ⟨p, hp⟩ : ∃ p, L[k]? = some p := ⟨L[k], by simp [hlt]⟩
      have c0 := hL k p hp
      have HD : Hid (L.drop k = p :: L.drop (k + 1)) := dropK hp
      clear hp hL
      by_cases hq : (p == s) = true
      · have H : Hid (hasN L s = true) := by
          show _ = _
          rw [HI.out, HD.out]
          have : p = s := by simpa using hq
          unfold hasN; simp [this]
        have hq2 : ((bs p).toList == (bs s).toList) = true := by simpa using hq
        clear HI HD
        go_wp2
        go_ret
        exact ⟨ret_v (by rw [H.out]; rfl), rfl⟩
      · have H : Hid (hasN L s = hasN (L.drop (k + 1)) s) := by
          show _ = _
          rw [HI.out, HD.out]
          have : ¬ s = p := fun e => hq (by simp [e])
          unfold hasN; simp [this]
        have hq' : (p == s) = false := by simpa using hq
        clear HI HD hq
        go_wp2
        go_round
        case rel => exact ⟨k + 1, by omega, by go_num, H.out⟩
        case measure => simp [intOf]; omega
    · have hd : L.drop k = [] := List.drop_eq_nil_of_le (by omega)
      have H : Hid (hasN L s = false) := by
        show _ = _
        rw [HI.out, hd]; rfl
      clear HI hd hL
      go_wp2
      go_ret
      exact ⟨ret_v (by rw [H.out]; rfl), rfl⟩
set_option maxHeartbeats 1000000 in
theorem in_nil (ao : Option Addr) (c : Nat) (s : Nm) (w : World) : Calls Tryz.prog 16 #[.slice ao 0 c, .string (bs s)] w fun e w' => e = .returned (.bool false) ∧ w' = w := by
  go_enter Tryz.func16, Tryz.ntmps16
  go_wp2
  go_loop [5] (fun i => i = .int .i64 0) (fun i => 0)
  case atStart => rfl
  case round =>
    obtain rfl := hrel
    go_wp2
    go_ret
    exact ⟨rfl, rfl⟩
theorem in_any {v : Value} {L : List Nm} {w : World} (h : IsS w v L) (hn : L.length ≤ 1000) (s : Nm) :
    Calls Tryz.prog 16 #[v, .string (bs s)] w fun e w' => e = .returned (.bool (hasN L s)) ∧ w' = w := by
  rcases h with ⟨ao, c, rfl, rfl, _⟩ | ⟨b, off, cap, rfl, hcap, hm, hb, hl⟩
  · exact in_nil ao c s w
  · exact in_some b off cap L s w hl hn

/-- A list of fields as a value: how long it is, and where each stands. -/
theorem isF_viewR {w : World} {v : Value} {l : List Fd} (h : IsF w v l) : ∃ ao c, v = .slice ao l.length c ∧ ∀ j g, l[j]? = some g → ∃ b o, ao = some ⟨b, o, none⟩ ∧ b < w.heap.size ∧ w.cell? ⟨b, o + j * 4, none⟩ = some (.string (bs g.nm)) ∧ w.cell? ⟨b, o + j * 4 + 1, none⟩ = some (.int .i64 g.t) ∧ w.cell? ⟨b, o + j * 4 + 2, none⟩ = some (.bool g.must) ∧ w.cell? ⟨b, o + j * 4 + 3, none⟩ = some (.bool g.key) := by
  rcases h with ⟨ao, c, rfl, rfl, _⟩ | ⟨b, off, cap, rfl, hc, hm, hb, hl⟩
  · exact ⟨ao, c, rfl, fun j g hg => by simp at hg⟩
  · exact ⟨_, _, rfl, fun j g hg => ⟨b, off, rfl, hb, hl j g hg⟩⟩

set_option maxHeartbeats 4000000 in
set_option maxRecDepth 100000 in
theorem rkind_some (b off cap : Nat) (L : List Kd) (s : Nm) (w : World) (hL : LiesK w b off L) (hn : L.length ≤ 12) :
    Calls Tryz.prog 14 #[.slice (some ⟨b, off, none⟩) L.length cap, .string (bs s)] w fun e w' => e = .returned (.int .i64 (idxK s L 0)) ∧ w' = w := by
  go_enter Tryz.func14, Tryz.ntmps14
  go_wp2
  go_loop [5] (fun i => ∃ k : Nat, k ≤ L.length ∧ i = .int .i64 k ∧ idxK s L 0 = idxK s (L.drop k) k) (fun i => L.length - (intOf i).toNat)
  case atStart => exact ⟨0, Nat.zero_le _, rfl, rfl⟩
  case round =>
    obtain ⟨k, hk, rfl, hi⟩ := hrel
    have HI : Hid (idxK s L 0 = idxK s (L.drop k) k) := hi
    clear hi
    by_cases hlt : k < L.length
    · obtain ⟨p, hp⟩ : ∃ p, L[k]? = some p := ⟨L[k], by simp [hlt]⟩
      obtain ⟨c0, _, _⟩ := hL k p hp
      have HD : Hid (L.drop k = p :: L.drop (k + 1)) := dropK hp
      clear hp hL
      by_cases hq : (p.nm == s) = true
      · have H : Hid (idxK s L 0 = k) := by
          show _ = _
          rw [HI.out, HD.out]; unfold idxK; rw [if_pos hq]
        have hq2 : ((bs p.nm).toList == (bs s).toList) = true := by simpa using hq
        clear HI HD
        go_wp2
        go_ret
        exact ⟨ret_v (by rw [H.out]; rfl), rfl⟩
      · have H : Hid (idxK s L 0 = idxK s (L.drop (k + 1)) (k + 1)) := by
          show _ = _
          rw [HI.out, HD.out]; conv => lhs; unfold idxK
          rw [if_neg hq]
        have hq' : (p.nm == s) = false := by simpa using hq
        clear HI HD hq
        go_wp2
        go_round
        case rel => exact ⟨k + 1, by omega, by go_num, H.out⟩
        case measure => simp [intOf]; omega
    · have hd : L.drop k = [] := List.drop_eq_nil_of_le (by omega)
      have H : Hid (idxK s L 0 = -1) := by
        show _ = _
        rw [HI.out, hd]; rfl
      clear HI hd hL
      go_wp2
      go_ret
      exact ⟨ret_v (by rw [H.out]; rfl), rfl⟩
set_option maxHeartbeats 1000000 in
theorem rkind_nil (s : Nm) (w : World) : Calls Tryz.prog 14 #[.slice none 0 0, .string (bs s)] w fun e w' => e = .returned (.int .i64 (-1)) ∧ w' = w := by
  go_enter Tryz.func14, Tryz.ntmps14
  go_wp2
  go_loop [5] (fun i => i = .int .i64 0) (fun i => 0)
  case atStart => rfl
  case round =>
    obtain rfl := hrel
    go_wp2
    go_ret
    exact ⟨rfl, rfl⟩
theorem rkind_any {v : Value} {L : List Kd} {w : World} (h : IsK w v L) (hn : L.length ≤ 12) (s : Nm) :
    Calls Tryz.prog 14 #[v, .string (bs s)] w fun e w' => e = .returned (.int .i64 (idxK s L 0)) ∧ w' = w := by
  rcases h with ⟨rfl, rfl⟩ | ⟨b, off, cap, rfl, hcap, hm, hb, hl⟩
  · exact rkind_nil s w
  · exact rkind_some b off cap L s w hl hn

/-- A list of names as a value: how long it is, and where each stands. -/
theorem isS_viewR {w : World} {v : Value} {l : List Nm} (h : IsS w v l) : ∃ ao c, v = .slice ao l.length c ∧ ∀ j g, l[j]? = some g → ∃ b o, ao = some ⟨b, o, none⟩ ∧ b < w.heap.size ∧ w.cell? ⟨b, o + j, none⟩ = some (.string (bs g)) := by
  rcases h with ⟨ao, c, rfl, rfl, _⟩ | ⟨b, off, cap, rfl, hc, hm, hb, hl⟩
  · exact ⟨ao, c, rfl, fun j g hg => by simp at hg⟩
  · exact ⟨_, _, rfl, fun j g hg => ⟨b, off, rfl, hb, hl j g hg⟩⟩
set_option maxHeartbeats 4000000 in
set_option maxRecDepth 100000 in
theorem texts_sameR {v u : Value} {l : List Nm} {w : World} (h1 : IsS w v l) (h2 : IsS w u l) (hn : l.length ≤ 1000) :
    Calls Tryz.prog 11 #[v, u] w fun e w' => e = .returned (.bool true) ∧ Below w.heap.size w w' := by
  obtain ⟨a1, c1, rfl, g1⟩ := isS_viewR h1
  obtain ⟨a2, c2, rfl, g2⟩ := isS_viewR h2
  have HG : Hid ((∀ j g, l[j]? = some g → ∃ b o, a1 = some ⟨b, o, none⟩ ∧ b < w.heap.size ∧ w.cell? ⟨b, o + j, none⟩ = some (.string (bs g))) ∧ (∀ j g, l[j]? = some g → ∃ b o, a2 = some ⟨b, o, none⟩ ∧ b < w.heap.size ∧ w.cell? ⟨b, o + j, none⟩ = some (.string (bs g)))) := ⟨g1, g2⟩
  clear h1 h2 g1 g2
  go_enter Tryz.func11, Tryz.ntmps11
  go_wp2
  go_loopw [5] (fun i wr => ∃ k : Nat, k ≤ l.length ∧ i = .int .i64 k ∧ Below w.heap.size w wr) (fun i _ => l.length - (intOf i).toNat)
  case atStart => exact ⟨0, Nat.zero_le _, rfl, Below.refl _ _⟩
  case round =>
    obtain ⟨k, hk, rfl, hB⟩ := hrel
    by_cases hlt : k < l.length
    · obtain ⟨p, hp⟩ : ∃ p, l[k]? = some p := ⟨l[k], by simp [hlt]⟩
      obtain ⟨b1, o1, rfl, hb1, m1⟩ := HG.out.1 k p hp
      obtain ⟨b2, o2, rfl, hb2, m2⟩ := HG.out.2 k p hp
      have x1 := (hB.cell (p := ⟨b1, o1 + k, none⟩) hb1).trans m1
      have x2 := (hB.cell (p := ⟨b2, o2 + k, none⟩) hb2).trans m2
      have HB : Hid (Below w.heap.size w wr) := hB
      have hki : (k : Int) < (l.length : Int) := by omega
      clear m1 m2 hB hp hb1 hb2
      go_wp2_with fail
      go_quiet (fail)
      go_wp2
      go_roundw
      case rel => exact ⟨k + 1, by omega, by go_num, b_drewK HB.out _⟩
      case measure => simp [intOf]; omega
    · go_wp2
      go_ret
      exact ⟨rfl, hB⟩
set_option maxHeartbeats 4000000 in
set_option maxRecDepth 100000 in
theorem fields_sameR {v u : Value} {l : List Fd} {w : World} (h1 : IsF w v l) (h2 : IsF w u l) (hn : l.length ≤ 1000) :
    Calls Tryz.prog 23 #[v, u] w fun e w' => e = .returned (.bool true) ∧ Below w.heap.size w w' := by
  obtain ⟨a1, c1, rfl, g1⟩ := isF_viewR h1
  obtain ⟨a2, c2, rfl, g2⟩ := isF_viewR h2
  have HG1 : Hid (∀ j g, l[j]? = some g → ∃ b o, a1 = some ⟨b, o, none⟩ ∧ b < w.heap.size ∧ w.cell? ⟨b, o + j * 4, none⟩ = some (.string (bs g.nm)) ∧ w.cell? ⟨b, o + j * 4 + 1, none⟩ = some (.int .i64 g.t) ∧ w.cell? ⟨b, o + j * 4 + 2, none⟩ = some (.bool g.must) ∧ w.cell? ⟨b, o + j * 4 + 3, none⟩ = some (.bool g.key)) := g1
  have HG2 : Hid (∀ j g, l[j]? = some g → ∃ b o, a2 = some ⟨b, o, none⟩ ∧ b < w.heap.size ∧ w.cell? ⟨b, o + j * 4, none⟩ = some (.string (bs g.nm)) ∧ w.cell? ⟨b, o + j * 4 + 1, none⟩ = some (.int .i64 g.t) ∧ w.cell? ⟨b, o + j * 4 + 2, none⟩ = some (.bool g.must) ∧ w.cell? ⟨b, o + j * 4 + 3, none⟩ = some (.bool g.key)) := g2
  clear h1 h2 g1 g2
  go_enter Tryz.func23, Tryz.ntmps23
  go_wp2
  go_loopw [5] (fun i wr => ∃ k : Nat, k ≤ l.length ∧ i = .int .i64 k ∧ Below w.heap.size w wr) (fun i _ => l.length - (intOf i).toNat)
  case atStart => exact ⟨0, Nat.zero_le _, rfl, Below.refl _ _⟩
  case round =>
    obtain ⟨k, hk, rfl, hB⟩ := hrel
    by_cases hlt : k < l.length
    · obtain ⟨p, hp⟩ : ∃ p, l[k]? = some p := ⟨l[k], by simp [hlt]⟩
      obtain ⟨b1, o1, rfl, hb1, m0, m1, m2, m3⟩ := HG1.out k p hp
      obtain ⟨b2, o2, rfl, hb2, n0, n1, n2, n3⟩ := HG2.out k p hp
      have x0 := (hB.cell (p := ⟨b1, o1 + k * 4, none⟩) hb1).trans m0
      have x1 := (hB.cell (p := ⟨b1, o1 + k * 4 + 1, none⟩) hb1).trans m1
      have x2 := (hB.cell (p := ⟨b1, o1 + k * 4 + 2, none⟩) hb1).trans m2
      have x3 := (hB.cell (p := ⟨b1, o1 + k * 4 + 3, none⟩) hb1).trans m3
      have y0 := (hB.cell (p := ⟨b2, o2 + k * 4, none⟩) hb2).trans n0
      have y1 := (hB.cell (p := ⟨b2, o2 + k * 4 + 1, none⟩) hb2).trans n1
      have y2 := (hB.cell (p := ⟨b2, o2 + k * 4 + 2, none⟩) hb2).trans n2
      have y3 := (hB.cell (p := ⟨b2, o2 + k * 4 + 3, none⟩) hb2).trans n3
      have HB : Hid (Below w.heap.size w wr) := hB
      have hki : (k : Int) < (l.length : Int) := by omega
      clear m0 m1 m2 m3 n0 n1 n2 n3 hB hp hb1 hb2
      go_wp2_with fail
      go_quiet (fail)
      go_wp2
      go_roundw
      case rel => exact ⟨k + 1, by omega, by go_num, b_drewK HB.out _⟩
      case measure => simp [intOf]; omega
    · go_wp2
      go_ret
      exact ⟨rfl, hB⟩
end Go.Proofs.YtkmkhadacppdnaaGreatDoor

/-
  The walk of kinref1.Kin: the least closed set of names, by marks.
-/
namespace Go.Proofs.YtkmkhadacppdnaaGreatDoor
open Go.RowKit
set_option linter.unusedVariables false
set_option linter.unusedSimpArgs false

/-- What is marked belongs there. -/
def Snd (L : List Kd) (a : Nm) (B : Nat → Bool) : Prop := ∀ i k, L[i]? = some k → B i = true → k.nm ∈ names L a
/-- The first of what one comes of are marked. -/
def ClsAt (L : List Kd) (B : Nat → Bool) (k : Kd) (m : Nat) : Prop := ∀ (t : Nat) (n : Nm), t < m → k.of[t]? = some n → ∀ (j : Nat) (x : Kd), L[j]? = some x → x.nm = n → B j = true
/-- .. of each of the first ones. -/
def Cls (L : List Kd) (B : Nat → Bool) (i : Nat) : Prop := ∀ (i' : Nat) (k : Kd), i' < i → L[i']? = some k → B i' = true → ClsAt L B k k.of.length
/-- How many are not marked. -/
def cnt (n : Nat) (B : Nat → Bool) : Nat := ((List.range n).filter fun i => !B i).length
/-- One mark more. -/
def mark (B : Nat → Bool) (j : Nat) : Nat → Bool := fun i => if i = j then true else B i
theorem cnt_mark {n j : Nat} {B : Nat → Bool} (hj : j < n) (h : B j = false) : cnt n (mark B j) < cnt n B := by
  unfold cnt
  induction n with
  | zero => omega
  | succ n ih =>
    rw [List.range_succ, List.filter_append, List.filter_append, List.length_append, List.length_append]
    by_cases hjn : j = n
    · subst hjn
      have e1 : ((List.range j).filter fun i => !mark B j i) = (List.range j).filter fun i => !B i := by
        apply List.filter_congr
        intro i hi
        have : ¬ i = j := by have := List.mem_range.1 hi; omega
        simp [mark, this]
      rw [e1]
      simp [mark, h]
    · have := ih (by omega)
      have e2 : ([n].filter fun i => !mark B j i) = [n].filter fun i => !B i := by simp only [List.filter_cons, List.filter_nil, mark, show ¬ n = j by omega, if_false]
      rw [e2]
      omega
theorem cnt_le (n : Nat) (B : Nat → Bool) : cnt n B ≤ n := by
  unfold cnt
  have := List.length_filter_le (fun i => !B i) (List.range n)
  simpa using this
/-- Marked just where the name belongs. -/
theorem marks_done {L : List Kd} {a : Nm} {B : Nat → Bool} (h : Right L) (hs : Snd L a B) (hc : Cls L B L.length) {ja : Nat} {q : Kd} (hq : L[ja]? = some q) (hqa : q.nm = a) (ha : B ja = true) :
    ∀ i k, L[i]? = some k → B i = hasN (names L a) k.nm := by
  intro i k hk
  have hall : ∀ n ∈ names L a, (∀ j x, L[j]? = some x → x.nm = n → B j = true) := by
    refine names_least L a (fun n => ∀ j x, L[j]? = some x → x.nm = n → B j = true) ?_ ?_
    · intro x hx hT n hn j y hy hyn
      obtain ⟨i', hi'⟩ := List.mem_iff_getElem?.1 hx
      have hB := hT i' x hi' rfl
      obtain ⟨t, ht⟩ := List.mem_iff_getElem?.1 hn
      have hlt := (List.getElem?_eq_some_iff.1 hi').1
      exact hc i' x hlt hi' hB t n (List.getElem?_eq_some_iff.1 ht).1 ht j y hy hyn
    · intro j x hx hxn
      have := right_names h j ja x q hx hq (hxn.trans hqa.symm)
      rw [this]; exact ha
  cases hB : B i with
  | true => exact ((hasN_iff _ _).2 (hs i k hk hB)).symm
  | false =>
    cases hN : hasN (names L a) k.nm with
    | false => rfl
    | true =>
      have := hall k.nm ((hasN_iff _ _).1 hN) i k hk rfl
      rw [hB] at this; exact absurd this (by decide)
theorem snd_mark {L : List Kd} {a : Nm} {B : Nat → Bool} (h : Right L) (hs : Snd L a B) {i j : Nat} {k x : Kd} {n : Nm} (hk : L[i]? = some k) (hB : B i = true) (hn : n ∈ k.of) (hx : L[j]? = some x) (hxn : x.nm = n) : Snd L a (mark B j) := by
  intro i' k' hk' hB'
  unfold mark at hB'
  split at hB'
  · rename_i e
    subst e
    rw [hx] at hk'
    obtain rfl := Option.some.inj hk'
    rw [hxn]
    exact names_closed h a (List.mem_of_getElem? hk) (hs i k hk hB) n hn
  · exact hs i' k' hk' hB'
end Go.Proofs.YtkmkhadacppdnaaGreatDoor
