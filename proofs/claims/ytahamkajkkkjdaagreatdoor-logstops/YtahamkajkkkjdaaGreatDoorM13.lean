import Derived.Test.YtahamkajkkkjdaaGreatDoorM11
import Derived.Lib.Hide
import Derived.Maps.Keyed
import Derived.Maps.OwnOps
import Derived.WalkKit
import Derived.Test.YtahamkajkkkjdaaGreatDoorProg
import Derived.DeepKeys4
namespace Go.Proofs.YtahamkajkkkjdaaGreatDoor
open Go.RowKit
set_option linter.unusedVariables false
set_option linter.unusedSimpArgs false
theorem rErr_len {L : List Pr} (h : rErr L = 0) : L.length ≤ 8 := by
  unfold rErr at h; split at h
  · exact absurd h (by decide)
  · omega
theorem on1R {W0 W W' : World} (hK : Below W0.heap.size W0 W) (hb : Below W.heap.size W W') : Below W0.heap.size W0 W' := hK.trans (hb.mono hK.size)
def idxP (nm : List UInt8) : List Pr → Nat → Int
  | [], _ => -1
  | p :: r, k => if (p.nm.toList == nm) = true then k else idxP nm r (k + 1)
set_option maxHeartbeats 1000000 in
theorem risName_any (p : Pr) (b : Nat) (s : ByteArray) (w : World) (hc : w.cell? ⟨b, 0, none⟩ = some (.string s)) (hb : b < w.heap.size) :
    Calls Tryz.prog 188 #[p.one, .pointer (some ⟨b, 0, none⟩)] w fun e w' => e = .returned (.bool (p.nm.toList == s.toList)) ∧ w' = w.alloc (.cells #[.string p.nm, .int .i64 p.t, .int .i64 p.n, .string p.s] 44) := by
  go_enter Tryz.func188, Tryz.ntmps188
  go_wp2
  go_ret
  exact ⟨rfl, rfl⟩
set_option maxHeartbeats 4000000 in
set_option maxRecDepth 100000 in
theorem rindex_some (b off cap : Nat) (L : List Pr) (bn : Nat) (s : ByteArray) (w : World) (hb : b < w.heap.size) (hL : Lies w b off L) (hn : L.length ≤ 8) (hbn : bn < w.heap.size) (hc : w.cell? ⟨bn, 0, none⟩ = some (.string s)) :
    Calls Tryz.prog 187 #[.slice (some ⟨b, off, none⟩) L.length cap, .func (.func 188) #[] #[.pointer (some ⟨bn, 0, none⟩)]] w fun e w' => e = .returned (.int .i64 (idxP s.toList L 0)) ∧ Below w.heap.size w w' := by
  go_enter Tryz.func187, Tryz.ntmps187
  go_wp2
  go_loopw [8] (fun i wr => ∃ k : Nat, k ≤ L.length ∧ i = .int .i64 k ∧ idxP s.toList L 0 = idxP s.toList (L.drop k) k ∧ Below w.heap.size w wr) (fun i _ => L.length - (intOf i).toNat)
  case atStart => exact ⟨0, Nat.zero_le _, rfl, rfl, Below.refl _ _⟩
  case round =>
    obtain ⟨k, hk, rfl, hi, hB⟩ := hrel
    have HI : Hid (idxP s.toList L 0 = idxP s.toList (L.drop k) k) := hi
    clear hi
    by_cases hlt : k < L.length
    · obtain ⟨p, hp⟩ : ∃ p, L[k]? = some p := ⟨L[k], by simp [hlt]⟩
      obtain ⟨c0, c1, c2, c3⟩ := hL k p hp
      have d0 := (hB.cell (p := ⟨b, off + k * 4, none⟩) hb).trans c0
      have d1 := (hB.cell (p := ⟨b, off + k * 4 + 1, none⟩) hb).trans c1
      have d2 := (hB.cell (p := ⟨b, off + k * 4 + 2, none⟩) hb).trans c2
      have d3 := (hB.cell (p := ⟨b, off + k * 4 + 3, none⟩) hb).trans c3
      have HD : Hid (L.drop k = p :: L.drop (k + 1)) := drop_at hp
      have cn := risName_any p bn s wr ((hB.cell (p := ⟨bn, 0, none⟩) hbn).trans hc) (Nat.lt_of_lt_of_le hbn hB.size)
      clear c0 c1 c2 c3 hp hL hc
      by_cases hq : (p.nm.toList == s.toList) = true
      · have H : Hid (idxP s.toList L 0 = k) := by
          show _ = _
          rw [HI.out, HD.out]; unfold idxP; rw [if_pos hq]
        rw [hq] at cn
        clear HI HD hq
        go_wp2_with (go_at_call 188; refine cn.mono ?_; rintro e w' ⟨rfl, rfl⟩)
        go_ret
        exact ⟨ret_v (by rw [H.out]; rfl), b_alloc hB _⟩
      · have H : Hid (idxP s.toList L 0 = idxP s.toList (L.drop (k + 1)) (k + 1)) := by
          show _ = _
          rw [HI.out, HD.out]; conv => lhs; unfold idxP
          rw [if_neg hq]
        have hq' : (p.nm.toList == s.toList) = false := by simpa using hq
        rw [hq'] at cn
        clear HI HD hq hq'
        go_wp2_with (go_at_call 188; refine cn.mono ?_; rintro e w' ⟨rfl, rfl⟩)
        go_roundw
        case rel => exact ⟨k + 1, by omega, by go_num, H.out, b_alloc hB _⟩
        case measure => simp [intOf]; omega
    · have hd : L.drop k = [] := List.drop_eq_nil_of_le (by omega)
      have H : Hid (idxP s.toList L 0 = -1) := by
        show _ = _
        rw [HI.out, hd]; rfl
      clear HI hd hL hc
      go_wp2
      go_ret
      exact ⟨ret_v (by rw [H.out]; rfl), hB⟩
set_option maxHeartbeats 1000000 in
theorem rindex_nil (ao : Option Addr) (c : Nat) (f : Value) (w : World) :
    Calls Tryz.prog 187 #[.slice ao 0 c, f] w fun e w' => e = .returned (.int .i64 (-1)) ∧ Below w.heap.size w w' := by
  go_enter Tryz.func187, Tryz.ntmps187
  go_wp2
  go_loopw [8] (fun i wr => i = .int .i64 0 ∧ wr = w) (fun i _ => 0)
  case atStart => exact ⟨rfl, rfl⟩
  case round =>
    obtain ⟨rfl, rfl⟩ := hrel
    go_wp2
    go_ret
    exact ⟨rfl, Below.refl _ _⟩
theorem rindex_any {v : Value} {L : List Pr} {w : World} (h : IsR w v L) (hn : L.length ≤ 8) (bn : Nat) (s : ByteArray) (hbn : bn < w.heap.size) (hc : w.cell? ⟨bn, 0, none⟩ = some (.string s)) :
    Calls Tryz.prog 187 #[v, .func (.func 188) #[] #[.pointer (some ⟨bn, 0, none⟩)]] w fun e w' => e = .returned (.int .i64 (idxP s.toList L 0)) ∧ Below w.heap.size w w' := by
  obtain ⟨ao, cap, rfl, rfl | ⟨b, off, rfl, hb, hl⟩⟩ := h
  · exact rindex_nil _ _ _ w
  · exact rindex_some b off cap L bn s w hb hl hn hbn hc
theorem idxP_spec (nm : List UInt8) (L : List Pr) : ∀ k, idxP nm L k = -1 ∨ ∃ j q, idxP nm L k = ((k + j : Nat) : Int) ∧ L[j]? = some q ∧ (q.nm.toList == nm) = true := by
  induction L with
  | nil => intro k; left; rfl
  | cons p r ih =>
    intro k
    by_cases h : (p.nm.toList == nm) = true
    · right; exact ⟨0, p, by unfold idxP; rw [if_pos h]; simp, rfl, h⟩
    · have e : idxP nm (p :: r) k = idxP nm r (k + 1) := by
        conv => lhs; unfold idxP
        rw [if_neg h]
      rw [e]
      rcases ih (k + 1) with h1 | ⟨j, q, h1, h2, h3⟩
      · exact .inl h1
      · exact .inr ⟨j + 1, q, by rw [h1]; congr 1; omega, by simpa using h2, h3⟩
def rfErr (nm : List UInt8) (L : List Pr) : Int := if rErr L = 0 then (if idxP nm L 0 = -1 then 5 else 0) else rErr L
def rfAt (nm : List UInt8) (L : List Pr) : Int := if rfErr nm L = 0 then idxP nm L 0 else 0
set_option maxHeartbeats 4000000 in
set_option maxRecDepth 100000 in
theorem rfind_any {v : Value} {L : List Pr} {w : World} (h : IsR w v L) (hs : Sz L) (hm : L.length ≤ maxLen) (s : ByteArray) :
    Calls Tryz.prog 149 #[v, .string s] w fun e w' => e = .returned (.tuple #[.int .i64 (rfAt s.toList L), errV (rfErr s.toList L)]) ∧ Below w.heap.size w w' := by
  have hB0 : Below w.heap.size w (w.alloc (.cells #[.string s] 9)) := b_alloc (Below.refl _ _) _
  have c1 := rcheck_r (h.on hB0) hs hm
  by_cases e1 : rErr L = 0
  · have hn := rErr_len e1
    rw [e1, errV_0] at c1
    have H2 : Hid (IsR w v L ∧ L.length ≤ 8 ∧ rErr L = 0) := ⟨h, hn, e1⟩
    rcases idxP_spec s.toList L 0 with hx | ⟨j, q, hx, hq, _⟩
    · have HE : Hid (rfErr s.toList L = 5 ∧ rfAt s.toList L = 0 ∧ idxP s.toList L 0 = -1) := by
        have e5 : rfErr s.toList L = 5 := by unfold rfErr; rw [if_pos e1, if_pos hx]
        exact ⟨e5, by unfold rfAt; rw [if_neg (by rw [e5]; decide)], hx⟩
      clear h hs hm e1 hn hx
      go_enter Tryz.func149, Tryz.ntmps149
      go_wp2_with (go_at_call 141; refine c1.mono ?_; rintro e W1 ⟨rfl, hB1⟩; refine Hid.out ?_)
      refine Lib.hid ?_
      have hB := on1R hB0 hB1
      have c2 := rindex_any (H2.out.1.on hB) H2.out.2.1 w.heap.size s (Nat.lt_of_lt_of_le (by simp) hB1.size) ((hB1.cell (p := ⟨w.heap.size, 0, none⟩) (by simp)).trans (by simp))
      rw [HE.out.2.2] at c2
      clear c1
      go_wp2_with (go_at_call 187; refine c2.mono ?_; rintro e W2 ⟨rfl, hB2⟩)
      go_ret2
      exact ⟨ret_v (by rw [HE.out.1, HE.out.2.1]; rfl), on1R hB hB2⟩
    · have hj : j < L.length := (List.getElem?_eq_some_iff.1 hq).1
      have HE : Hid (rfErr s.toList L = 0 ∧ rfAt s.toList L = j ∧ idxP s.toList L 0 = j) := by
        have hx' : idxP s.toList L 0 = (j : Int) := by simpa using hx
        have e5 : rfErr s.toList L = 0 := by unfold rfErr; rw [if_pos e1, if_neg (by rw [hx']; omega)]
        exact ⟨e5, by unfold rfAt; rw [if_pos e5, hx'], hx'⟩
      have hj8 : j < 8 := by omega
      clear h hs hm e1 hx hq hn hj
      go_enter Tryz.func149, Tryz.ntmps149
      go_wp2_with (go_at_call 141; refine c1.mono ?_; rintro e W1 ⟨rfl, hB1⟩; refine Hid.out ?_)
      refine Lib.hid ?_
      have hB := on1R hB0 hB1
      have c2 := rindex_any (H2.out.1.on hB) H2.out.2.1 w.heap.size s (Nat.lt_of_lt_of_le (by simp) hB1.size) ((hB1.cell (p := ⟨w.heap.size, 0, none⟩) (by simp)).trans (by simp))
      rw [HE.out.2.2] at c2
      clear c1
      go_wp2_with (go_at_call 187; refine c2.mono ?_; rintro e W2 ⟨rfl, hB2⟩)
      go_ret2
      exact ⟨ret_v (by rw [HE.out.1, HE.out.2.1]; rfl), on1R hB hB2⟩
  · have HE : Hid (rfErr s.toList L = rErr L ∧ ¬ rErr L = 0 ∧ rfAt s.toList L = 0) := by
      have e5 : rfErr s.toList L = rErr L := by unfold rfErr; rw [if_neg e1]
      exact ⟨e5, e1, by unfold rfAt; rw [if_neg (by rw [e5]; exact e1)]⟩
    rw [errV_ne e1] at c1
    clear h hs hm e1
    go_enter Tryz.func149, Tryz.ntmps149
    go_wp2_with (go_at_call 141; refine c1.mono ?_; rintro e W1 ⟨rfl, hB1⟩)
    go_ret2
    exact ⟨ret_v (by rw [HE.out.1, errV_ne HE.out.2.1, HE.out.2.2]; rfl), on1R hB0 hB1⟩
def getV (nm : List UInt8) (L : List Pr) : Value :=
  if rfErr nm L = 0 then (match L[(idxP nm L 0).toNat]? with | some q => .agg #[.int .i64 q.t, .int .i64 q.n, .string q.s] | none => .agg #[.int .i64 0, .int .i64 0, .string ⟨#[]⟩]) else .agg #[.int .i64 0, .int .i64 0, .string ⟨#[]⟩]
set_option maxHeartbeats 4000000 in
set_option maxRecDepth 100000 in
theorem get_any {v : Value} {L : List Pr} {w : World} (h : IsR w v L) (hs : Sz L) (hm : L.length ≤ maxLen) (s : ByteArray) :
    Calls Tryz.prog 226 #[v, .string s] w fun e w' => e = .returned (.tuple #[getV s.toList L, errV (rfErr s.toList L)]) ∧ Below w.heap.size w w' := by
  have hB0 : Below w.heap.size w (w.alloc (.cells #[.int .i64 0, .int .i64 0, .string ⟨#[]⟩] 42)) := b_alloc (Below.refl _ _) _
  have c1 := rfind_any (h.on hB0) hs hm s
  by_cases e1 : rfErr s.toList L = 0
  · have e2 : rErr L = 0 := by
      unfold rfErr at e1; split at e1
      · assumption
      · exact absurd e1 (by assumption)
    have hx : ¬ idxP s.toList L 0 = -1 := by
      intro e; unfold rfErr at e1; rw [if_pos e2, if_pos e] at e1; exact absurd e1 (by decide)
    obtain ⟨j, q, hj, hq, _⟩ := (idxP_spec s.toList L 0).resolve_left hx
    have hj' : idxP s.toList L 0 = (j : Int) := by simpa using hj
    have HG : Hid (getV s.toList L = .agg #[.int .i64 q.t, .int .i64 q.n, .string q.s] ∧ rfErr s.toList L = 0) := by
      refine ⟨?_, e1⟩
      unfold getV; rw [if_pos e1, hj']; simp [hq]
    have hA : rfAt s.toList L = (j : Int) := by unfold rfAt; rw [if_pos e1, hj']
    rw [e1, errV_0, hA] at c1
    obtain ⟨ao, cap, rfl, rfl | ⟨b, off, rfl, hb, hl⟩⟩ := h
    · simp at hq
    · obtain ⟨c0, d1, d2, d3⟩ := hl j q hq
      have hjl : j < L.length := (List.getElem?_eq_some_iff.1 hq).1
      have hn := rErr_len e2
      have hbn : ¬ b = w.heap.size := by omega
      clear hs hm e1 e2 hx hj hj' hq hA hl c0
      go_enter Tryz.func226, Tryz.ntmps226
      go_wp2_with (go_at_call 149; refine c1.mono ?_; rintro e W1 ⟨rfl, hB1⟩; refine Hid.out ?_)
      refine Lib.hid ?_
      have hB := on1R hB0 hB1
      have f1 := (hB.cell (p := ⟨b, off + j * 4 + 1, none⟩) hb).trans d1
      have f2 := (hB.cell (p := ⟨b, off + j * 4 + 2, none⟩) hb).trans d2
      have f3 := (hB.cell (p := ⟨b, off + j * 4 + 3, none⟩) hb).trans d3
      have hzs : w.heap.size < W1.heap.size := Nat.lt_of_lt_of_le (by simp) hB1.size
      have g0 := hB1.cell (p := ⟨w.heap.size, 0, none⟩) (by simp)
      have g1 := hB1.cell (p := ⟨w.heap.size, 1, none⟩) (by simp)
      have g2 := hB1.cell (p := ⟨w.heap.size, 2, none⟩) (by simp)
      have k0 := hB1.frozen (p := ⟨w.heap.size, 0, none⟩) (by simp)
      have k1 := hB1.frozen (p := ⟨w.heap.size, 1, none⟩) (by simp)
      have k2 := hB1.frozen (p := ⟨w.heap.size, 2, none⟩) (by simp)
      simp at g0 g1 g2 k0 k1 k2
      clear c1 d1 d2 d3
      go_wp2
      exact bodyPost_ret (v := .tuple #[.agg #[.int .i64 q.t, .int .i64 q.n, .string q.s], .nilIface]) (by simp [results, Tryz.results226, go_sem, g0, g1, g2, hzs]) rfl
        ⟨ret_v (by rw [HG.out.1, HG.out.2]; rfl), ((hB.setCell (by simp) _).setCell (by simp) _).setCell (by simp) _⟩
  · have hA : rfAt s.toList L = 0 := by unfold rfAt; rw [if_neg e1]
    have HG : Hid (getV s.toList L = .agg #[.int .i64 0, .int .i64 0, .string ⟨#[]⟩] ∧ ¬ rfErr s.toList L = 0) := by
      refine ⟨?_, e1⟩
      unfold getV; rw [if_neg e1]
    rw [errV_ne e1, hA] at c1
    generalize rfErr s.toList L = ee at c1 HG ⊢
    clear h hs hm e1 hA
    go_enter Tryz.func226, Tryz.ntmps226
    go_wp2_with (go_at_call 149; refine c1.mono ?_; rintro e W1 ⟨rfl, hB1⟩; refine Hid.out ?_)
    refine Lib.hid ?_
    have hB := on1R hB0 hB1
    have hzs : w.heap.size < W1.heap.size := Nat.lt_of_lt_of_le (by simp) hB1.size
    have g0 := hB1.cell (p := ⟨w.heap.size, 0, none⟩) (by simp)
    have g1 := hB1.cell (p := ⟨w.heap.size, 1, none⟩) (by simp)
    have g2 := hB1.cell (p := ⟨w.heap.size, 2, none⟩) (by simp)
    have k0 := hB1.frozen (p := ⟨w.heap.size, 0, none⟩) (by simp)
    have k1 := hB1.frozen (p := ⟨w.heap.size, 1, none⟩) (by simp)
    have k2 := hB1.frozen (p := ⟨w.heap.size, 2, none⟩) (by simp)
    simp at g0 g1 g2 k0 k1 k2
    clear c1
    go_wp2
    exact bodyPost_ret (v := .tuple #[.agg #[.int .i64 0, .int .i64 0, .string ⟨#[]⟩], .iface 76 (.int .i64 ee)]) (by simp [results, Tryz.results226, go_sem, g0, g1, g2, hzs]) rfl
      ⟨ret_v (by rw [HG.out.1, errV_ne HG.out.2]), ((hB.setCell (by simp) _).setCell (by simp) _).setCell (by simp) _⟩
end Go.Proofs.YtahamkajkkkjdaaGreatDoor
namespace Go.Proofs.YtahamkajkkkjdaaGreatDoor
open Go.RowKit
open Go.MapKept Go.ChangeMaps
open Go.Maps (Keyed)
set_option linter.unusedVariables false
set_option linter.unusedSimpArgs false
section
variable {κ : Type}
def upd [DecidableEq κ] {β : Type} (F : κ → Option β) (x : κ) (v : β) : κ → Option β := fun y => if y = x then some v else F y
def OwnM (w : World) (P : Program) (k : TypeId) (enc : κ → Value) (b : Nat) (F : κ → Option Value) : Prop :=
  ∃ es clock, w.heap[b]? = some (.map es clock) ∧ Stamped es clock ∧ (∀ e ∈ es.toList, ∃ x l, e.key = enc x ∧ keyOf P k e.key = some l ∧ F x = some e.val) ∧ (∀ x v, F x = some v → ∃ e ∈ es.toList, e.key = enc x ∧ e.val = v)
def OwnE (w : World) (P : Program) (k : TypeId) (enc : κ → Value) (b : Nat) (F : κ → Option Value) (x : κ) (n : Nat) : Prop :=
  ∃ es clock, w.heap[b]? = some (.map es clock) ∧ Stamped es clock ∧ (∀ e ∈ es.toList, ∃ x l, e.key = enc x ∧ keyOf P k e.key = some l ∧ F x = some e.val) ∧ (∀ x v, F x = some v → ∃ e ∈ es.toList, e.key = enc x ∧ e.val = v) ∧ ∃ e ∈ es.toList, e.key = enc x ∧ e.born = n
variable {w : World} {P : Program} {k : TypeId} {enc : κ → Value} {b : Nat} {F : κ → Option Value}
theorem OwnE.m {x : κ} {n : Nat} (h : OwnE w P k enc b F x n) : OwnM w P k enc b F := by
  obtain ⟨es, c, h1, h2, h3, h4, _⟩ := h
  exact ⟨es, c, h1, h2, h3, h4⟩
theorem OwnM.lt (h : OwnM w P k enc b F) : b < w.heap.size := by
  obtain ⟨es, c, h1, _⟩ := h
  exact (Array.getElem?_eq_some_iff.1 h1).1
theorem OwnM.of_block {w' : World} (h : OwnM w P k enc b F) (hb : w'.heap[b]? = w.heap[b]?) : OwnM w' P k enc b F := by
  obtain ⟨es, c, h1, h2⟩ := h
  exact ⟨es, c, hb.trans h1, h2⟩
theorem OwnE.of_block {w' : World} {x : κ} {n : Nat} (h : OwnE w P k enc b F x n) (hb : w'.heap[b]? = w.heap[b]?) : OwnE w' P k enc b F x n := by
  obtain ⟨es, c, h1, h2⟩ := h
  exact ⟨es, c, hb.trans h1, h2⟩
theorem OwnM.drew (h : OwnM w P k enc b F) : OwnM w.drew P k enc b F := h
theorem OwnM.made (w : World) : OwnM (w.alloc (.map #[] 0)) P k enc w.heap.size (fun _ => none) :=
  ⟨#[], 0, (MapKept.heap_alloc w _).1, stamped_empty 0, by simp, by simp⟩
theorem OwnM.look (h : OwnM w P k enc b F) (K : Keyed P k) (hinj : ∀ x y, enc x = enc y → x = y) {t e : TypeId} (ht : P.underlying t = some (.map k e)) {z : Value} (hz : (zeroValue e).run P w = .ok z w) {x : κ} {l : Lit} (hk : keyOf P k (enc x) = some l) (c : Bool) :
    (Instr.lookup t (.map (some b)) (enc x) c).run P w = .ok (if c then .tuple #[(F x).getD z, .bool (F x).isSome] else (F x).getD z) w := by
  obtain ⟨es, clock, hb, hs, h1, h2⟩ := h
  rcases K.find w hk es.toList (fun e he => by obtain ⟨_, l, _, h, _⟩ := h1 e he; exact ⟨l, h⟩) with ⟨f1, f2⟩ | ⟨j, e0, f1, f2, f3⟩
  · have hF : F x = none := by
      cases hx : F x with
      | none => rfl
      | some v => obtain ⟨e, he, hke, _⟩ := h2 x v hx; exact absurd hke (f2 e he)
    rw [hF]
    simp [Instr.lookup, run_underlying ht, MapKept.run_getObj_map hb, K.check w _ hk, f1, hz, Result.andThen]
  · obtain ⟨y, l', g1, g2, g3⟩ := h1 e0 (List.mem_of_getElem? f2)
    obtain rfl : y = x := hinj _ _ (g1.symm.trans f3)
    rw [g3]
    simp [Instr.lookup, run_underlying ht, MapKept.run_getObj_map hb, K.check w _ hk, f1, Result.andThen]
theorem mem_modify {es : Array MapEntry} {j : Nat} {e0 : MapEntry} (f : MapEntry → MapEntry) (h : es.toList[j]? = some e0) (x : MapEntry) :
    x ∈ (es.modify j f).toList → x = f e0 ∨ ∃ i, i ≠ j ∧ es.toList[i]? = some x := by
  intro hx
  rw [Array.toList_modify, modify_eq_set _ _ _ _ h] at hx
  obtain ⟨i, hi, ex⟩ := List.getElem_of_mem hx
  rw [List.getElem_set] at ex
  split at ex
  · exact .inl ex.symm
  · rename_i hne
    have hi' : i < es.toList.length := by simpa using hi
    exact .inr ⟨i, fun e => hne e.symm, by rw [List.getElem?_eq_getElem hi', ex]⟩
theorem mem_modify_at {es : Array MapEntry} {j : Nat} {e0 : MapEntry} (f : MapEntry → MapEntry) (h : es.toList[j]? = some e0) : f e0 ∈ (es.modify j f).toList := by
  rw [Array.toList_modify, modify_eq_set _ _ _ _ h]
  have hj := (List.getElem?_eq_some_iff.1 h).1
  exact List.mem_iff_getElem.2 ⟨j, by simpa using hj, by simp⟩
theorem mem_modify_other {es : Array MapEntry} {j : Nat} {e0 : MapEntry} (f : MapEntry → MapEntry) (h : es.toList[j]? = some e0) {e : MapEntry} (he : e ∈ es.toList) (hne : e ≠ e0) : e ∈ (es.modify j f).toList := by
  rw [Array.toList_modify, modify_eq_set _ _ _ _ h]
  obtain ⟨i, hi, rfl⟩ := List.getElem_of_mem he
  have hij : ¬ j = i := fun e => by
    subst e
    rw [List.getElem?_eq_getElem hi] at h
    exact hne (Option.some.inj h)
  exact List.mem_iff_getElem.2 ⟨i, by simpa using hi, by rw [List.getElem_set, if_neg hij]⟩
theorem own_modify [DecidableEq κ] {es : Array MapEntry} {clock : Nat} (hs : Stamped es clock) (h1 : ∀ e ∈ es.toList, ∃ x l, e.key = enc x ∧ keyOf P k e.key = some l ∧ F x = some e.val) (h2 : ∀ x v, F x = some v → ∃ e ∈ es.toList, e.key = enc x ∧ e.val = v) (hinj : ∀ x y, enc x = enc y → x = y)
    {j : Nat} {e0 : MapEntry} (hj : es.toList[j]? = some e0) {x : κ} (hx : e0.key = enc x) (f : MapEntry → MapEntry) (hfk : (f e0).key = e0.key) {v : Value} (hfv : (f e0).val = v) :
    (∀ e ∈ (es.modify j f).toList, ∃ y l, e.key = enc y ∧ keyOf P k e.key = some l ∧ upd F x v y = some e.val) ∧ (∀ y u, upd F x v y = some u → ∃ e ∈ (es.modify j f).toList, e.key = enc y ∧ e.val = u) := by
  have hm0 := List.mem_of_getElem? hj
  constructor
  · intro e he
    rcases mem_modify f hj e he with rfl | ⟨i, hij, hi⟩
    · obtain ⟨y, l, g1, g2, g3⟩ := h1 e0 hm0
      refine ⟨x, l, by rw [hfk, hx], by rw [hfk]; exact g2, ?_⟩
      unfold upd; rw [if_pos rfl, hfv]
    · obtain ⟨y, l, g1, g2, g3⟩ := h1 e (List.mem_of_getElem? hi)
      refine ⟨y, l, g1, g2, ?_⟩
      have hyx : ¬ y = x := fun h => by
        subst h
        have hp := ((stamped_iff es clock).1 hs).2.2
        rw [List.pairwise_iff_getElem] at hp
        obtain ⟨hil, e1⟩ := List.getElem?_eq_some_iff.1 hi
        obtain ⟨hjl, e2⟩ := List.getElem?_eq_some_iff.1 hj
        have ek : es.toList[i].key = es.toList[j].key := by rw [e1, e2, g1, hx]
        rcases Nat.lt_or_gt_of_ne hij with h | h
        · exact hp i j hil hjl h ek
        · exact hp j i hjl hil h ek.symm
      unfold upd; rw [if_neg hyx]; exact g3
  · intro y u hu
    unfold upd at hu
    split at hu
    · rename_i hyx
      subst hyx
      exact ⟨f e0, mem_modify_at f hj, by rw [hfk, hx], by rw [hfv]; exact Option.some.inj hu⟩
    · rename_i hyx
      obtain ⟨e, he, g1, g2⟩ := h2 y u hu
      refine ⟨e, mem_modify_other f hj he (fun h => hyx ?_), g1, g2⟩
      subst h
      exact hinj _ _ (g1.symm.trans hx)
theorem own_push [DecidableEq κ] {es : Array MapEntry} (h1 : ∀ e ∈ es.toList, ∃ x l, e.key = enc x ∧ keyOf P k e.key = some l ∧ F x = some e.val) (h2 : ∀ x v, F x = some v → ∃ e ∈ es.toList, e.key = enc x ∧ e.val = v)
    {x : κ} {l : Lit} (hk : keyOf P k (enc x) = some l) (hno : ∀ e ∈ es.toList, e.key ≠ enc x) (v : Value) (n : Nat) :
    (∀ e ∈ (es.push ⟨enc x, v, n⟩).toList, ∃ y l, e.key = enc y ∧ keyOf P k e.key = some l ∧ upd F x v y = some e.val) ∧ (∀ y u, upd F x v y = some u → ∃ e ∈ (es.push ⟨enc x, v, n⟩).toList, e.key = enc y ∧ e.val = u) := by
  constructor
  · intro e he
    simp only [Array.toList_push, List.mem_append, List.mem_singleton] at he
    rcases he with he | rfl
    · obtain ⟨y, l', g1, g2, g3⟩ := h1 e he
      refine ⟨y, l', g1, g2, ?_⟩
      unfold upd
      rw [if_neg (fun h => hno e he (by rw [g1, h]))]; exact g3
    · exact ⟨x, l, rfl, hk, by unfold upd; rw [if_pos rfl]⟩
  · intro y u hu
    simp only [Array.toList_push, List.mem_append, List.mem_singleton]
    unfold upd at hu
    split at hu
    · rename_i hyx
      subst hyx
      exact ⟨_, .inr rfl, rfl, Option.some.inj hu⟩
    · obtain ⟨e, he, g1, g2⟩ := h2 y u hu
      exact ⟨e, .inl he, g1, g2⟩
theorem grown_setBlock {w : World} {b : Nat} {es : Array MapEntry} {clock : Nat} (hb : w.heap[b]? = some (.map es clock)) (o : Obj) : w.grownBy (setBlock w b o) (some b) :=
  ⟨rfl, rfl, rfl, by simp [setBlock], fun i _ hi => heap_setBlock_other hb _ (fun e => hi (by rw [e]))⟩
theorem OwnM.put [DecidableEq κ] (h : OwnM w P k enc b F) (K : Keyed P k) (hinj : ∀ x y, enc x = enc y → x = y) {t e : TypeId} (ht : P.underlying t = some (.map k e)) {x : κ} {l : Lit} (hk : keyOf P k (enc x) = some l) (v : Value) :
    ∃ w', (Instr.mapUpdate t (.map (some b)) (enc x) v).run P w = .ok () w' ∧ OwnM w' P k enc b (upd F x v) ∧ w.grownBy w' (some b) := by
  obtain ⟨es, clock, hb, hs, h1, h2⟩ := h
  rcases K.find w hk es.toList (fun e he => by obtain ⟨_, l, _, h, _⟩ := h1 e he; exact ⟨l, h⟩) with ⟨f1, f2⟩ | ⟨j, e0, f1, f2, f3⟩
  · refine ⟨setBlock w b (.map (es.push ⟨enc x, v, clock⟩) (clock + 1)), ?_, ⟨_, _, heap_setBlock_same hb _, stamped_push hs f2, own_push h1 h2 hk f2 v clock⟩, grown_setBlock hb _⟩
    simp [Instr.mapUpdate, run_underlying ht, MapKept.run_getObj_map hb, K.check w false hk, f1, MapKept.run_setObj_map _ hb, Result.andThen, setBlock]
  · have hj : es[j]? = some e0 := by simpa using f2
    refine ⟨setBlock w b (.map (es.modify j (fun e' => { e' with key := enc x, val := v })) clock), ?_, ⟨_, _, heap_setBlock_same hb _, stamped_modify hs _ _ (fun _ _ => rfl) (fun e' _ he' => by rw [hj] at he'; cases he'; exact f3.symm), own_modify hs h1 h2 hinj f2 f3 _ f3.symm rfl⟩, grown_setBlock hb _⟩
    simp [Instr.mapUpdate, run_underlying ht, MapKept.run_getObj_map hb, K.check w false hk, f1, hj, f3, K.stays w hk, MapKept.run_setObj_map _ hb, Result.andThen, setBlock]
theorem OwnM.entry [DecidableEq κ] (h : OwnM w P k enc b F) (K : Keyed P k) (hinj : ∀ x y, enc x = enc y → x = y) {t e : TypeId} (ht : P.underlying t = some (.map k e)) {z : Value} (hz : (zeroValue e).run P w = .ok z w) {x : κ} {l : Lit} (hk : keyOf P k (enc x) = some l) :
    ∃ (w' : World) (n : Nat), (Instr.mapEntry t (.map (some b)) (enc x)).run P w = .ok (.tuple #[(F x).getD z, goInt n]) w' ∧ OwnE w' P k enc b (upd F x ((F x).getD z)) x n ∧ w.grownBy w' (some b) := by
  obtain ⟨es, clock, hb, hs, h1, h2⟩ := h
  rcases K.find w hk es.toList (fun e he => by obtain ⟨_, l, _, h, _⟩ := h1 e he; exact ⟨l, h⟩) with ⟨f1, f2⟩ | ⟨j, e0, f1, f2, f3⟩
  · have hF : F x = none := by
      cases hx : F x with
      | none => rfl
      | some v => obtain ⟨e, he, hke, _⟩ := h2 x v hx; exact absurd hke (f2 e he)
    rw [hF]
    obtain ⟨p1, p2⟩ := own_push h1 h2 hk f2 z clock
    refine ⟨setBlock w b (.map (es.push ⟨enc x, z, clock⟩) (clock + 1)), clock, ?_, ⟨_, _, heap_setBlock_same hb _, stamped_push hs f2, p1, p2, ⟨enc x, z, clock⟩, by simp, rfl, rfl⟩, grown_setBlock hb _⟩
    simp [Instr.mapEntry, run_underlying ht, MapKept.run_getObj_map hb, K.check w false hk, f1, hz, MapKept.run_setObj_map _ hb, Result.andThen, setBlock]
  · have hj : es[j]? = some e0 := by simpa using f2
    have hm0 := List.mem_of_getElem? f2
    obtain ⟨y, l', g1, g2, g3⟩ := h1 e0 hm0
    obtain rfl : y = x := hinj _ _ (g1.symm.trans f3)
    rw [g3]
    obtain ⟨p1, p2⟩ := own_modify (F := F) hs h1 h2 hinj f2 f3 (fun e' => { e' with key := enc y }) f3.symm (v := e0.val) rfl
    refine ⟨setBlock w b (.map (es.modify j (fun e' => { e' with key := enc y })) clock), e0.born, ?_, ⟨_, _, heap_setBlock_same hb _, stamped_modify hs _ _ (fun _ _ => rfl) (fun e' _ he' => by rw [hj] at he'; cases he'; exact f3.symm), p1, p2, { e0 with key := enc y }, mem_modify_at _ f2, rfl, rfl⟩, grown_setBlock hb _⟩
    simp [Instr.mapEntry, run_underlying ht, MapKept.run_getObj_map hb, K.check w false hk, f1, hj, f3, K.stays w hk, MapKept.run_setObj_map _ hb, Result.andThen, setBlock]
theorem OwnE.store [DecidableEq κ] {x : κ} {n : Nat} (h : OwnE w P k enc b F x n) (hinj : ∀ x y, enc x = enc y → x = y) (t : TypeId) (v : Value) :
    ∃ w', (Instr.entryStore t (.map (some b)) (goInt n) v).run P w = .ok () w' ∧ OwnM w' P k enc b (upd F x v) ∧ w.grownBy w' (some b) := by
  obtain ⟨es, clock, hb, hs, h1, h2, e0, he0, hx, hn⟩ := h
  obtain ⟨j, hjl, ej⟩ := List.getElem_of_mem he0
  have hnd := ((stamped_iff es clock).1 hs).2.1
  have hidx : es.findIdx? (fun e => (e.born : Int) == (n : Int)) = some j := by
    rw [Array.findIdx?_eq_some_iff_getElem]
    refine ⟨by simpa using hjl, by have : es[j]'(by simpa using hjl) = e0 := by simpa using ej
                                   rw [this]; simp [hn], fun i hi => ?_⟩
    have hne : es.toList[i].born ≠ es.toList[j].born := by
      have hp := hnd
      rw [List.Nodup, List.pairwise_map, List.pairwise_iff_getElem] at hp
      exact hp i j (by omega) hjl hi
    rw [ej, hn] at hne
    have h2 : ¬ ((es[i]'(by have := hjl; simp at this; omega)).born : Int) = (n : Int) := fun h => hne (by simpa using Int.ofNat.inj h)
    simpa using h2
  have f2 : es.toList[j]? = some e0 := by rw [List.getElem?_eq_getElem hjl, ej]
  refine ⟨setBlock w b (.map (es.modify j (fun e' => { e' with val := v })) clock), ?_, ⟨_, _, heap_setBlock_same hb _, stamped_modify hs _ _ (fun _ _ => rfl) (fun _ _ _ => rfl), own_modify hs h1 h2 hinj f2 hx (fun e' => { e' with val := v }) rfl rfl⟩, grown_setBlock hb _⟩
  simp [Instr.entryStore, goInt, asInt, asIntOf, MapKept.run_getObj_map hb, hidx, MapKept.run_setObj_map _ hb, Result.andThen, setBlock]
end
end Go.Proofs.YtahamkajkkkjdaaGreatDoor
namespace Go.Proofs.YtahamkajkkkjdaaGreatDoor
open Go.RowKit
open Go.Maps (Keyed)
set_option linter.unusedVariables false
set_option linter.unusedSimpArgs false
theorem lay0 : laidOutB Tryz.prog = true := by kernel_rfl
abbrev KeyV := ByteArray × Int × Int × ByteArray
abbrev EndV := ByteArray × Int
def encS (s : ByteArray) : Value := .string s
def encI (n : Int) : Value := .int .i64 n
def encQ (x : KeyV) : Value := .agg #[.string x.1, .int .i64 x.2.1, .int .i64 x.2.2.1, .string x.2.2.2]
def encE (x : EndV) : Value := .agg #[.string x.1, .int .i64 x.2]
theorem encS_inj : ∀ x y, encS x = encS y → x = y := fun x y h => by simpa [encS] using h
theorem encI_inj : ∀ x y, encI x = encI y → x = y := fun x y h => by simpa [encI] using h
theorem encQ_inj : ∀ x y, encQ x = encQ y → x = y := fun x y h => by
  obtain ⟨a, b, c, d⟩ := x
  obtain ⟨a', b', c', d'⟩ := y
  simpa [encQ] using h
theorem encE_inj : ∀ x y, encE x = encE y → x = y := fun x y h => by
  obtain ⟨a, b⟩ := x
  obtain ⟨a', b'⟩ := y
  simpa [encE] using h
theorem keyedS : Keyed Tryz.prog 9 := Go.Maps.string_keyed Tryz.underlying9
theorem keyedI : Keyed Tryz.prog 3 := Go.Maps.int_keyed Tryz.underlying3
theorem keyedK : Keyed Tryz.prog 359 := Keyed.of_law (deep_law_laid lay0 (m := 4) (by omega) (of_decide_eq_true (by kernel_rfl)) (by kernel_rfl) (by rw [Tryz.underlying359]))
theorem keyedE : Keyed Tryz.prog 294 := Keyed.of_law (deep_law_laid lay0 (m := 4) (by omega) (of_decide_eq_true (by kernel_rfl)) (by kernel_rfl) (by rw [Tryz.underlying294]))
theorem zero76 (w : World) : (zeroValue 289).run Tryz.prog w = .ok (.agg #[.slice none 0 0, .slice none 0 0, .slice none 0 0]) w := by kernel_rfl
theorem zero72 (w : World) : (zeroValue 54).run Tryz.prog w = .ok (.agg #[.string ⟨#[]⟩, .string ⟨#[]⟩, .string ⟨#[]⟩, .int .i64 0, .int .i64 0]) w := by kernel_rfl
theorem zero3 (w : World) : (zeroValue 3).run Tryz.prog w = .ok (.int .i64 0) w := by kernel_rfl
def in64 (n : Int) : Prop := (Lit.int .i64 n).wf = true
theorem in64_of {n : Int} (h1 : -9223372036854775808 ≤ n) (h2 : n ≤ 9223372036854775807) : in64 n := by
  unfold in64
  have e1 : IntKind.i64.min = -9223372036854775808 := by decide
  have e2 : IntKind.i64.max = 9223372036854775807 := by decide
  simp [Lit.wf, e1, e2]
  omega
theorem keyS {s : ByteArray} (h : s.size ≤ maxLen) : ∃ l, keyOf Tryz.prog 9 (encS s) = some l := ⟨_, by
  unfold keyOf
  rw [Tryz.underlying9]
  simp only [encS, mapKey, Tryz.underlying9]
  rw [if_pos h]⟩
theorem keyI {n : Int} (h : in64 n) : ∃ l, keyOf Tryz.prog 3 (encI n) = some l := ⟨_, Go.Maps.keyOf_int_mk Tryz.underlying3 h⟩
theorem kt106 : Tryz.prog.keyType 359 = true := by kernel_rfl
theorem kt83 : Tryz.prog.keyType 294 = true := by kernel_rfl
theorem co106 : Tryz.prog.cellsOf 359 = 4 := by kernel_rfl
theorem co48 : Tryz.prog.cellsOf 42 = 3 := by kernel_rfl
theorem co83 : Tryz.prog.cellsOf 294 = 2 := by kernel_rfl
theorem co9 : Tryz.prog.cellsOf 9 = 1 := by kernel_rfl
theorem co3 : Tryz.prog.cellsOf 3 = 1 := by kernel_rfl
theorem tys : Tryz.prog.types.size + 1 = 416 := by kernel_rfl
theorem klS (d : Nat) {s : ByteArray} (h : s.size ≤ maxLen) : Tryz.prog.keyLits (d + 1) 9 [.string s] = some [.string s.data.toList] := by
  simp only [Program.keyLits, Tryz.underlying9]; rw [if_pos h]
theorem klI (d : Nat) {n : Int} (h : in64 n) : Tryz.prog.keyLits (d + 1) 3 [.int .i64 n] = some [.int .i64 n] := by
  unfold in64 at h
  simp only [Program.keyLits, Tryz.underlying3]; rw [if_pos ⟨trivial, h⟩]
theorem kl83 (d : Nat) {s : ByteArray} {n : Int} (h1 : s.size ≤ maxLen) (h2 : in64 n) : Tryz.prog.keyLits (d + 2) 294 [.string s, .int .i64 n] = some [.string s.data.toList, .int .i64 n] := by
  conv => lhs; unfold Program.keyLits
  rw [Tryz.underlying294]
  simp [co83, co9, co3, klS _ h1, klI _ h2]
theorem kl48 (d : Nat) {t n : Int} {s : ByteArray} (h1 : in64 t) (h2 : in64 n) (h3 : s.size ≤ maxLen) : Tryz.prog.keyLits (d + 2) 42 [.int .i64 t, .int .i64 n, .string s] = some [.int .i64 t, .int .i64 n, .string s.data.toList] := by
  conv => lhs; unfold Program.keyLits
  rw [Tryz.underlying42]
  simp [co48, co9, co3, klS _ h3, klI _ h2, klI _ h1]
theorem kl106 (d : Nat) {f s : ByteArray} {t n : Int} (h0 : f.size ≤ maxLen) (h1 : in64 t) (h2 : in64 n) (h3 : s.size ≤ maxLen) : Tryz.prog.keyLits (d + 3) 359 [.string f, .int .i64 t, .int .i64 n, .string s] = some [.string f.data.toList, .int .i64 t, .int .i64 n, .string s.data.toList] := by
  conv => lhs; unfold Program.keyLits
  rw [Tryz.underlying359]
  simp [co106, co48, co9, klS _ h0, kl48 _ h1 h2 h3]
theorem keyE {x : EndV} (h1 : x.1.size ≤ maxLen) (h2 : in64 x.2) : ∃ l, keyOf Tryz.prog 294 (encE x) = some l := by
  have hf : (encE x).formed Tryz.prog 294 = true := by simp [encE, Value.formed, Tryz.underlying294, co83]
  unfold keyOf
  rw [Tryz.underlying294, kt83, hf, tys]
  have := kl83 414 h1 h2
  simp only [Bool.and_self, if_true]
  rw [show (encE x).cells.toList = [.string x.1, .int .i64 x.2] from rfl, show (416 : Nat) = 414 + 2 from rfl, this]
  exact ⟨_, rfl⟩
theorem keyK {x : KeyV} (h1 : x.1.size ≤ maxLen) (h2 : in64 x.2.1) (h3 : in64 x.2.2.1) (h4 : x.2.2.2.size ≤ maxLen) : ∃ l, keyOf Tryz.prog 359 (encQ x) = some l := by
  have hf : (encQ x).formed Tryz.prog 359 = true := by simp [encQ, Value.formed, Tryz.underlying359, co106]
  unfold keyOf
  rw [Tryz.underlying359, kt106, hf, tys]
  have := kl106 413 h1 h2 h3 h4
  simp only [Bool.and_self, if_true]
  rw [show (encQ x).cells.toList = [.string x.1, .int .i64 x.2.1, .int .i64 x.2.2.1, .string x.2.2.2] from rfl, show (416 : Nat) = 413 + 3 from rfl, this]
  exact ⟨_, rfl⟩
end Go.Proofs.YtahamkajkkkjdaaGreatDoor
