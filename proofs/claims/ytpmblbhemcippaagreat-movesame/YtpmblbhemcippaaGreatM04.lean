/-
  The walks of record.find and record.Get.
-/
import Derived.Test.YtpmblbhemcippaaGreatM02
import Derived.Lib.Hide
import Derived.Test.YtpmblbhemcippaaGreatM03
import Derived.Deep.RegionLaw
namespace Go.Proofs.YtpmblbhemcippaaGreat
open Go.RowKit
set_option linter.unusedVariables false
set_option linter.unusedSimpArgs false

theorem rErr_len {L : List Pr} (h : rErr L = 0) : L.length ≤ 8 := by
  unfold rErr at h; split at h
  · exact absurd h (by decide)
  · omega
theorem on1R {W0 W W' : World} (hK : Below W0.heap.size W0 W) (hb : Below W.heap.size W W') : Below W0.heap.size W0 W' := hK.trans (hb.mono hK.size)
def idxP (nm : List UInt8) : List Pr → Nat → Int
  | [], _ => -1
  | p :: r, k => if (p.nm.toList == nm) = true then k else idxP nm r (k + 1)
set_option maxHeartbeats 1000000 in
theorem risName_any (p : Pr) (b : Nat) (s : ByteArray) (w : World) (hc : w.cell? ⟨b, 0, none⟩ = some (.string s)) (hb : b < w.heap.size) :
    Calls Tryz.prog 154 #[p.one, .pointer (some ⟨b, 0, none⟩)] w fun e w' => e = .returned (.bool (p.nm.toList == s.toList)) ∧ w' = w.alloc (.cells #[.string p.nm, .int .i64 p.t, .int .i64 p.n, .string p.s] 52) := by
  go_enter Tryz.func154, Tryz.ntmps154
  go_wp2
  go_ret
  exact ⟨rfl, rfl⟩
set_option maxHeartbeats 4000000 in
set_option maxRecDepth 100000 in
theorem rindex_some (b off cap : Nat) (L : List Pr) (bn : Nat) (s : ByteArray) (w : World) (hb : b < w.heap.size) (hL : Lies w b off L) (hn : L.length ≤ 8) (hbn : bn < w.heap.size) (hc : w.cell? ⟨bn, 0, none⟩ = some (.string s)) :
    Calls Tryz.prog 89 #[.slice (some ⟨b, off, none⟩) L.length cap, .func (.func 154) #[] #[.pointer (some ⟨bn, 0, none⟩)]] w fun e w' => e = .returned (.int .i64 (idxP s.toList L 0)) ∧ Below w.heap.size w w' := by
  go_enter Tryz.func89, Tryz.ntmps89
  go_wp2
  go_loopw [8] (fun i wr => ∃ k : Nat, k ≤ L.length ∧ i = .int .i64 k ∧ idxP s.toList L 0 = idxP s.toList (L.drop k) k ∧ Below w.heap.size w wr) (fun i _ => L.length - (intOf i).toNat)
  case atStart => exact ⟨0, Nat.zero_le _, rfl, rfl, Below.refl _ _⟩
  case round =>
    obtain ⟨k, hk, rfl, hi, hB⟩ := hrel
    have HI : Hid (idxP s.toList L 0 = idxP s.toList (L.drop k) k) := hi
    clear hi
    by_cases hlt : k < L.length
    · obtain ⟨p, hp⟩ : ∃ p, L[k]? = some p := ⟨L[k], by simp [hlt]⟩
      obtain ⟨c0, c1, c2, c3⟩ := hL k p hp
      have d0 := (hB.cell (p := ⟨b, off + k * 4, none⟩) hb).trans c0
      have d1 := (hB.cell (p := ⟨b, off + k * 4 + 1, none⟩) hb).trans c1
      have d2 := (hB.cell (p := ⟨b, off + k * 4 + 2, none⟩) hb).trans c2
      have d3 := (hB.cell (p := ⟨b, off + k * 4 + 3, none⟩) hb).trans c3
      have HD : Hid (L.drop k = p :: L.drop (k + 1)) := drop_at hp
      have cn := risName_any p bn s wr ((hB.cell (p := ⟨bn, 0, none⟩) hbn).trans hc) (Nat.lt_of_lt_of_le hbn hB.size)
      clear c0 c1 c2 c3 hp hL hc
      by_cases hq : (p.nm.toList == s.toList) = true
      · have H : Hid (idxP s.toList L 0 = k) := by
          show _ = _
          rw [HI.out, HD.out]; unfold idxP; rw [if_pos hq]
        rw [hq] at cn
        clear HI HD hq
        go_wp2_with (go_at_call 154; refine cn.mono ?_; rintro e w' ⟨rfl, rfl⟩)
        go_ret
        exact ⟨ret_v (by rw [H.out]; rfl), b_alloc hB _⟩
      · have H : Hid (idxP s.toList L 0 = idxP s.toList (L.drop (k + 1)) (k + 1)) := by
          show _ = _
          rw [HI.out, HD.out]; conv => lhs; unfold idxP
          rw [if_neg hq]
        have hq' : (p.nm.toList == s.toList) = false := by simpa using hq
        rw [hq'] at cn
        clear HI HD hq hq'
        go_wp2_with (go_at_call 154; refine cn.mono ?_; rintro e w' ⟨rfl, rfl⟩)
        go_roundw
        case rel => exact ⟨k + 1, by omega, by go_num, H.out, b_alloc hB _⟩
        case measure => simp [intOf]; omega
    · have hd : L.drop k = [] := List.drop_eq_nil_of_le (by omega)
      have H : Hid (idxP s.toList L 0 = -1) := by
        show _ = _
        rw [HI.out, hd]; rfl
      clear HI hd hL hc
      go_wp2
      go_ret
      exact ⟨ret_v (by rw [H.out]; rfl), hB⟩
set_option maxHeartbeats 1000000 in
theorem rindex_nil (ao : Option Addr) (c : Nat) (f : Value) (w : World) :
    Calls Tryz.prog 89 #[.slice ao 0 c, f] w fun e w' => e = .returned (.int .i64 (-1)) ∧ Below w.heap.size w w' := by
  go_enter Tryz.func89, Tryz.ntmps89
  go_wp2
  go_loopw [8] (fun i wr => i = .int .i64 0 ∧ wr = w) (fun i _ => 0)
  case atStart => exact ⟨rfl, rfl⟩
  case round =>
    obtain ⟨rfl, rfl⟩ := hrel
    go_wp2
    go_ret
    exact ⟨rfl, Below.refl _ _⟩
theorem rindex_any {v : Value} {L : List Pr} {w : World} (h : IsR w v L) (hn : L.length ≤ 8) (bn : Nat) (s : ByteArray) (hbn : bn < w.heap.size) (hc : w.cell? ⟨bn, 0, none⟩ = some (.string s)) :
    Calls Tryz.prog 89 #[v, .func (.func 154) #[] #[.pointer (some ⟨bn, 0, none⟩)]] w fun e w' => e = .returned (.int .i64 (idxP s.toList L 0)) ∧ Below w.heap.size w w' := by
  obtain ⟨ao, cap, rfl, rfl | ⟨b, off, rfl, hb, hl⟩⟩ := h
  · exact rindex_nil _ _ _ w
  · exact rindex_some b off cap L bn s w hb hl hn hbn hc

theorem idxP_spec (nm : List UInt8) (L : List Pr) : ∀ k, idxP nm L k = -1 ∨ ∃ j q, idxP nm L k = ((k + j : Nat) : Int) ∧ L[j]? = some q ∧ (q.nm.toList == nm) = true := by
  induction L with
  | nil => intro k; left; rfl
  | cons p r ih =>
    intro k
    by_cases h : (p.nm.toList == nm) = true
    · right; exact ⟨0, p, by unfold idxP; rw [if_pos h]; simp, rfl, h⟩
    · have e : idxP nm (p :: r) k = idxP nm r (k + 1) := by
        conv => lhs; unfold idxP
        rw [if_neg h]
      rw [e]
      rcases ih (k + 1) with h1 | ⟨j, q, h1, h2, h3⟩
      · exact .inl h1
      · exact .inr ⟨j + 1, q, by rw [h1]; congr 1; omega, by simpa using h2, h3⟩

def rfErr (nm : List UInt8) (L : List Pr) : Int := if rErr L = 0 then (if idxP nm L 0 = -1 then 5 else 0) else rErr L
def rfAt (nm : List UInt8) (L : List Pr) : Int := if rfErr nm L = 0 then idxP nm L 0 else 0

set_option maxHeartbeats 4000000 in
set_option maxRecDepth 100000 in
theorem rfind_any {v : Value} {L : List Pr} {w : World} (h : IsR w v L) (hs : Sz L) (hm : L.length ≤ maxLen) (s : ByteArray) :
    Calls Tryz.prog 146 #[v, .string s] w fun e w' => e = .returned (.tuple #[.int .i64 (rfAt s.toList L), errV (rfErr s.toList L)]) ∧ Below w.heap.size w w' := by
  have hB0 : Below w.heap.size w (w.alloc (.cells #[.string s] 9)) := b_alloc (Below.refl _ _) _
  have c1 := rcheck_r (h.on hB0) hs hm
  by_cases e1 : rErr L = 0
  · have hn := rErr_len e1
    rw [e1, errV_0] at c1
    have H2 : Hid (IsR w v L ∧ L.length ≤ 8 ∧ rErr L = 0) := ⟨h, hn, e1⟩
    rcases idxP_spec s.toList L 0 with hx | ⟨j, q, hx, hq, _⟩
    · have HE : Hid (rfErr s.toList L = 5 ∧ rfAt s.toList L = 0 ∧ idxP s.toList L 0 = -1) := by
        have e5 : rfErr s.toList L = 5 := by unfold rfErr; rw [if_pos e1, if_pos hx]
        exact ⟨e5, by unfold rfAt; rw [if_neg (by rw [e5]; decide)], hx⟩
      clear h hs hm e1 hn hx
      go_enter Tryz.func146, Tryz.ntmps146
      go_wp2_with (go_at_call 82; refine c1.mono ?_; rintro e W1 ⟨rfl, hB1⟩; refine Hid.out ?_)
      refine Lib.hid ?_
      have hB := on1R hB0 hB1
      have c2 := rindex_any (H2.out.1.on hB) H2.out.2.1 w.heap.size s (Nat.lt_of_lt_of_le (by simp) hB1.size) ((hB1.cell (p := ⟨w.heap.size, 0, none⟩) (by simp)).trans (by simp))
      rw [HE.out.2.2] at c2
      clear c1
      go_wp2_with (go_at_call 89; refine c2.mono ?_; rintro e W2 ⟨rfl, hB2⟩)
      go_ret2
      exact ⟨ret_v (by rw [HE.out.1, HE.out.2.1]; rfl), on1R hB hB2⟩
    · have hj : j < L.length := (List.getElem?_eq_some_iff.1 hq).1
      have HE : Hid (rfErr s.toList L = 0 ∧ rfAt s.toList L = j ∧ idxP s.toList L 0 = j) := by
        have hx' : idxP s.toList L 0 = (j : Int) := by simpa using hx
        have e5 : rfErr s.toList L = 0 := by unfold rfErr; rw [if_pos e1, if_neg (by rw [hx']; omega)]
        exact ⟨e5, by unfold rfAt; rw [if_pos e5, hx'], hx'⟩
      have hj8 : j < 8 := by omega
      clear h hs hm e1 hx hq hn hj
      go_enter Tryz.func146, Tryz.ntmps146
      go_wp2_with (go_at_call 82; refine c1.mono ?_; rintro e W1 ⟨rfl, hB1⟩; refine Hid.out ?_)
      refine Lib.hid ?_
      have hB := on1R hB0 hB1
      have c2 := rindex_any (H2.out.1.on hB) H2.out.2.1 w.heap.size s (Nat.lt_of_lt_of_le (by simp) hB1.size) ((hB1.cell (p := ⟨w.heap.size, 0, none⟩) (by simp)).trans (by simp))
      rw [HE.out.2.2] at c2
      clear c1
      go_wp2_with (go_at_call 89; refine c2.mono ?_; rintro e W2 ⟨rfl, hB2⟩)
      go_ret2
      exact ⟨ret_v (by rw [HE.out.1, HE.out.2.1]; rfl), on1R hB hB2⟩
  · have HE : Hid (rfErr s.toList L = rErr L ∧ ¬ rErr L = 0 ∧ rfAt s.toList L = 0) := by
      have e5 : rfErr s.toList L = rErr L := by unfold rfErr; rw [if_neg e1]
      exact ⟨e5, e1, by unfold rfAt; rw [if_neg (by rw [e5]; exact e1)]⟩
    rw [errV_ne e1] at c1
    clear h hs hm e1
    go_enter Tryz.func146, Tryz.ntmps146
    go_wp2_with (go_at_call 82; refine c1.mono ?_; rintro e W1 ⟨rfl, hB1⟩)
    go_ret2
    exact ⟨ret_v (by rw [HE.out.1, errV_ne HE.out.2.1, HE.out.2.2]; rfl), on1R hB0 hB1⟩

def getV (nm : List UInt8) (L : List Pr) : Value :=
  if rfErr nm L = 0 then (match L[(idxP nm L 0).toNat]? with | some q => .agg #[.int .i64 q.t, .int .i64 q.n, .string q.s] | none => .agg #[.int .i64 0, .int .i64 0, .string ⟨#[]⟩]) else .agg #[.int .i64 0, .int .i64 0, .string ⟨#[]⟩]

set_option maxHeartbeats 4000000 in
set_option maxRecDepth 100000 in
theorem get_any {v : Value} {L : List Pr} {w : World} (h : IsR w v L) (hs : Sz L) (hm : L.length ≤ maxLen) (s : ByteArray) :
    Calls Tryz.prog 121 #[v, .string s] w fun e w' => e = .returned (.tuple #[getV s.toList L, errV (rfErr s.toList L)]) ∧ Below w.heap.size w w' := by
  have hB0 : Below w.heap.size w (w.alloc (.cells #[.int .i64 0, .int .i64 0, .string ⟨#[]⟩] 35)) := b_alloc (Below.refl _ _) _
  have c1 := rfind_any (h.on hB0) hs hm s
  by_cases e1 : rfErr s.toList L = 0
  · have e2 : rErr L = 0 := by
      unfold rfErr at e1; split at e1
      · assumption
      · exact absurd e1 (by assumption)
    have hx : ¬ idxP s.toList L 0 = -1 := by
      intro e; unfold rfErr at e1; rw [if_pos e2, if_pos e] at e1; exact absurd e1 (by decide)
    obtain ⟨j, q, hj, hq, _⟩ := (idxP_spec s.toList L 0).resolve_left hx
    have hj' : idxP s.toList L 0 = (j : Int) := by simpa using hj
    have HG : Hid (getV s.toList L = .agg #[.int .i64 q.t, .int .i64 q.n, .string q.s] ∧ rfErr s.toList L = 0) := by
      refine ⟨?_, e1⟩
      unfold getV; rw [if_pos e1, hj']; simp [hq]
    have hA : rfAt s.toList L = (j : Int) := by unfold rfAt; rw [if_pos e1, hj']
    rw [e1, errV_0, hA] at c1
    obtain ⟨ao, cap, rfl, rfl | ⟨b, off, rfl, hb, hl⟩⟩ := h
    · simp at hq
    · obtain ⟨c0, d1, d2, d3⟩ := hl j q hq
      have hjl : j < L.length := (List.getElem?_eq_some_iff.1 hq).1
      have hn := rErr_len e2
      have hbn : ¬ b = w.heap.size := by omega
      clear hs hm e1 e2 hx hj hj' hq hA hl c0
      go_enter Tryz.func121, Tryz.ntmps121
      go_wp2_with (go_at_call 146; refine c1.mono ?_; rintro e W1 ⟨rfl, hB1⟩; refine Hid.out ?_)
      refine Lib.hid ?_
      have hB := on1R hB0 hB1
      have f1 := (hB.cell (p := ⟨b, off + j * 4 + 1, none⟩) hb).trans d1
      have f2 := (hB.cell (p := ⟨b, off + j * 4 + 2, none⟩) hb).trans d2
      have f3 := (hB.cell (p := ⟨b, off + j * 4 + 3, none⟩) hb).trans d3
      have hzs : w.heap.size < W1.heap.size := Nat.lt_of_lt_of_le (by simp) hB1.size
      have g0 := hB1.cell (p := ⟨w.heap.size, 0, none⟩) (by simp)
      have g1 := hB1.cell (p := ⟨w.heap.size, 1, none⟩) (by simp)
      have g2 := hB1.cell (p := ⟨w.heap.size, 2, none⟩) (by simp)
      have k0 := hB1.frozen (p := ⟨w.heap.size, 0, none⟩) (by simp)
      have k1 := hB1.frozen (p := ⟨w.heap.size, 1, none⟩) (by simp)
      have k2 := hB1.frozen (p := ⟨w.heap.size, 2, none⟩) (by simp)
      simp at g0 g1 g2 k0 k1 k2
      clear c1 d1 d2 d3
      go_wp2
      exact bodyPost_ret (v := .tuple #[.agg #[.int .i64 q.t, .int .i64 q.n, .string q.s], .nilIface]) (by simp [results, Tryz.results121, go_sem, g0, g1, g2, hzs]) rfl
        ⟨ret_v (by rw [HG.out.1, HG.out.2]; rfl), ((hB.setCell (by simp) _).setCell (by simp) _).setCell (by simp) _⟩
  · have hA : rfAt s.toList L = 0 := by unfold rfAt; rw [if_neg e1]
    have HG : Hid (getV s.toList L = .agg #[.int .i64 0, .int .i64 0, .string ⟨#[]⟩] ∧ ¬ rfErr s.toList L = 0) := by
      refine ⟨?_, e1⟩
      unfold getV; rw [if_neg e1]
    rw [errV_ne e1, hA] at c1
    generalize rfErr s.toList L = ee at c1 HG ⊢
    clear h hs hm e1 hA
    go_enter Tryz.func121, Tryz.ntmps121
    go_wp2_with (go_at_call 146; refine c1.mono ?_; rintro e W1 ⟨rfl, hB1⟩; refine Hid.out ?_)
    refine Lib.hid ?_
    have hB := on1R hB0 hB1
    have hzs : w.heap.size < W1.heap.size := Nat.lt_of_lt_of_le (by simp) hB1.size
    have g0 := hB1.cell (p := ⟨w.heap.size, 0, none⟩) (by simp)
    have g1 := hB1.cell (p := ⟨w.heap.size, 1, none⟩) (by simp)
    have g2 := hB1.cell (p := ⟨w.heap.size, 2, none⟩) (by simp)
    have k0 := hB1.frozen (p := ⟨w.heap.size, 0, none⟩) (by simp)
    have k1 := hB1.frozen (p := ⟨w.heap.size, 1, none⟩) (by simp)
    have k2 := hB1.frozen (p := ⟨w.heap.size, 2, none⟩) (by simp)
    simp at g0 g1 g2 k0 k1 k2
    clear c1
    go_wp2
    exact bodyPost_ret (v := .tuple #[.agg #[.int .i64 0, .int .i64 0, .string ⟨#[]⟩], .iface 74 (.int .i64 ee)]) (by simp [results, Tryz.results121, go_sem, g0, g1, g2, hzs]) rfl
      ⟨ret_v (by rw [HG.out.1, errV_ne HG.out.2]), ((hB.setCell (by simp) _).setCell (by simp) _).setCell (by simp) _⟩
end Go.Proofs.YtpmblbhemcippaaGreat

/-
  The walk of record.merged with one property.
-/
namespace Go.Proofs.YtpmblbhemcippaaGreat
open Go.RowKit
set_option linter.unusedVariables false
set_option linter.unusedSimpArgs false

def ins (p : Pr) : List Pr → List Pr
  | [] => [p]
  | a :: r => if a.lt p = true then a :: ins p r else if (a.nm.toList == p.nm.toList) = true then p :: r else p :: a :: r

def cellsOf (L : List Pr) : List Value := L.flatMap Pr.cells

theorem cellsOf_snoc (L : List Pr) (p : Pr) : cellsOf (L ++ [p]) = cellsOf L ++ p.cells := by simp [cellsOf]
theorem cellsOf_app (L M : List Pr) : cellsOf (L ++ M) = cellsOf L ++ cellsOf M := by simp [cellsOf]
theorem cellsOf_len (L : List Pr) : (cellsOf L).length = L.length * 4 := by
  induction L with
  | nil => rfl
  | cons a r ih => simp [cellsOf, Pr.cells] at ih ⊢; omega
theorem cellsOf_one (L : List Pr) : ∀ u ∈ cellsOf L, u.oneCell' = true := by
  intro u hu
  obtain ⟨p, _, hp⟩ := List.mem_flatMap.1 hu
  simp [Pr.cells] at hp
  rcases hp with rfl | rfl | rfl | rfl <;> rfl

theorem info33 : (Tryz.prog.info? 52).map (fun i => (i.zero, i.size, i.bytes)) = some (some (.agg #[.string ⟨#[]⟩, .int .i64 0, .int .i64 0, .string ⟨#[]⟩]), 4, 48) := by kernel_rfl



theorem ins_len (p : Pr) (L : List Pr) : L.length ≤ (ins p L).length ∧ (ins p L).length ≤ L.length + 1 := by
  induction L with
  | nil => simp [ins]
  | cons a r ih =>
    unfold ins
    split
    · simp; omega
    · split <;> simp
def slen : Value → Nat | .slice _ n _ => n | _ => 0

theorem own_al {w w0 : World} {base : Nat} {e : TypeId} {size : Nat} {v : Value} {n : Nat} {xs : List Value} (h : w.ownsRow base e size v n xs) (hh : w0.heap = w.heap) (o : Obj) : (w0.alloc o).ownsRow base e size v n xs := by
  have h0 : w0.ownsRow base e size v n xs := by unfold World.ownsRow at *; rw [hh]; exact h
  exact h0.alloc o
theorem cells_new (w0 : World) (p : Pr) : ∀ j u, p.cells[j]? = some u → (w0.alloc (.cells #[.string p.nm, .int .i64 p.t, .int .i64 p.n, .string p.s] 52)).cell? ((⟨w0.heap.size, 0, none⟩ : Addr).add j) = some u := by
  intro j u hu
  match j, hu with
  | 0, hu => simp [Pr.cells] at hu; subst hu; simp [Addr.add]
  | 1, hu => simp [Pr.cells] at hu; subst hu; simp [Addr.add]
  | 2, hu => simp [Pr.cells] at hu; subst hu; simp [Addr.add]
  | 3, hu => simp [Pr.cells] at hu; subst hu; simp [Addr.add]
  | k + 4, hu => simp [Pr.cells] at hu
theorem cells_one (p : Pr) : ∀ u ∈ p.cells, u.oneCell' = true := by
  intro u hu
  simp [Pr.cells] at hu
  rcases hu with rfl | rfl | rfl | rfl <;> rfl

def MR (w : World) (b off cap b2 o2 : Nat) (p : Pr) (L : List Pr) (a bb all : Value) (wr : World) : Prop :=
  ∃ (i o nb : Nat) (xs : List Pr), i ≤ L.length ∧ (i < L.length → o = off + i * 4) ∧ a = .slice (some ⟨b, o, none⟩) (L.length - i) (cap - i) ∧ bb = .slice (some ⟨b2, o2, none⟩) nb nb ∧
    ((nb = 1 ∧ xs = L.take i ∧ ins p L = L.take i ++ ins p (L.drop i)) ∨ (nb = 0 ∧ xs ++ L.drop i = ins p L)) ∧ wr.ownsRow w.heap.size 52 4 all xs.length (cellsOf xs) ∧ Below w.heap.size w wr

theorem mr_a {w w1 : World} {b off cap b2 o2 i la ca o' cc : Nat} {p a0 : Pr} {L : List Pr} {v1 : Value} (hi : i < L.length) (hcap : L.length ≤ cap)
    (HH : Hid (L.drop i = a0 :: L.drop (i + 1) ∧ L.take (i + 1) = L.take i ++ [a0] ∧ ins p L = L.take i ++ ins p (L.drop i))) (HL : Hid (la = L.length - i ∧ ca = cap - i ∧ (L.take i).length = i))
    (h1 : a0.lt p = true) (hown1 : w1.ownsRow w.heap.size 52 4 v1 ((L.take i).length + 1) (cellsOf (L.take i) ++ a0.cells)) (hB1 : Below w.heap.size w w1) (ho' : ca = 1 ∨ o' = off + i * 4 + 4) (hcc : cc = ca - 1) :
    MR w b off cap b2 o2 p L (.slice (some ⟨b, o', none⟩) (la - 1) cc) (.slice (some ⟨b2, o2, none⟩) 1 1) v1 w1 := by
  obtain ⟨hD, hT, hins⟩ := HH.out
  obtain ⟨hla, hca, hlen⟩ := HL.out
  refine ⟨i + 1, o', 1, L.take (i + 1), by omega, fun h => by omega, by rw [hcc, hla, hca, Nat.sub_sub, Nat.sub_sub], rfl, .inl ⟨rfl, rfl, ?_⟩, ?_, hB1⟩
  · rw [hins, hD, hT]; simp [ins, h1]
  · rw [hT, cellsOf_snoc]; simpa using hown1
theorem mr_b {w w1 : World} {b off cap b2 o2 i la ca o' cc : Nat} {p a0 : Pr} {L : List Pr} {v1 : Value} (hi : i < L.length) (hcap : L.length ≤ cap)
    (HH : Hid (L.drop i = a0 :: L.drop (i + 1) ∧ L.take (i + 1) = L.take i ++ [a0] ∧ ins p L = L.take i ++ ins p (L.drop i))) (HL : Hid (la = L.length - i ∧ ca = cap - i ∧ (L.take i).length = i))
    (h1 : ¬ a0.lt p = true) (h2 : (a0.nm.toList == p.nm.toList) = true) (hown1 : w1.ownsRow w.heap.size 52 4 v1 ((L.take i).length + 1) (cellsOf (L.take i) ++ p.cells)) (hB1 : Below w.heap.size w w1) (ho' : ca = 1 ∨ o' = off + i * 4 + 4) (hcc : cc = ca - 1) :
    MR w b off cap b2 o2 p L (.slice (some ⟨b, o', none⟩) (la - 1) cc) (.slice (some ⟨b2, o2, none⟩) 0 0) v1 w1 := by
  obtain ⟨hD, hT, hins⟩ := HH.out
  obtain ⟨hla, hca, hlen⟩ := HL.out
  refine ⟨i + 1, o', 0, L.take i ++ [p], by omega, fun h => by omega, by rw [hcc, hla, hca, Nat.sub_sub, Nat.sub_sub], rfl, .inr ⟨rfl, ?_⟩, ?_, hB1⟩
  · rw [hins, hD]; unfold ins; rw [if_neg h1, if_pos h2]; simp
  · rw [cellsOf_snoc]; simpa using hown1
theorem mr_c {w w1 : World} {b off cap b2 o2 i la ca : Nat} {p a0 : Pr} {L : List Pr} {v1 : Value} (hi : i < L.length) (hcap : L.length ≤ cap)
    (HH : Hid (L.drop i = a0 :: L.drop (i + 1) ∧ L.take (i + 1) = L.take i ++ [a0] ∧ ins p L = L.take i ++ ins p (L.drop i))) (HL : Hid (la = L.length - i ∧ ca = cap - i ∧ (L.take i).length = i))
    (h1 : ¬ a0.lt p = true) (h2 : ¬ (a0.nm.toList == p.nm.toList) = true) (hown1 : w1.ownsRow w.heap.size 52 4 v1 ((L.take i).length + 1) (cellsOf (L.take i) ++ p.cells)) (hB1 : Below w.heap.size w w1) :
    MR w b off cap b2 o2 p L (.slice (some ⟨b, off + i * 4, none⟩) la ca) (.slice (some ⟨b2, o2, none⟩) 0 0) v1 w1 := by
  obtain ⟨hD, hT, hins⟩ := HH.out
  obtain ⟨hla, hca, hlen⟩ := HL.out
  refine ⟨i, off + i * 4, 0, L.take i ++ [p], by omega, fun h => rfl, by rw [hla, hca], rfl, .inr ⟨rfl, ?_⟩, ?_, hB1⟩
  · rw [hins, hD]; conv => rhs; unfold ins
    rw [if_neg h1, if_neg h2]; simp
  · rw [cellsOf_snoc]; simpa using hown1
theorem lies_cells {w : World} {b o : Nat} {M : List Pr} (h : ∀ k p, M[k]? = some p → w.cell? ⟨b, o + k * 4, none⟩ = some (.string p.nm) ∧ w.cell? ⟨b, o + k * 4 + 1, none⟩ = some (.int .i64 p.t) ∧ w.cell? ⟨b, o + k * 4 + 2, none⟩ = some (.int .i64 p.n) ∧ w.cell? ⟨b, o + k * 4 + 3, none⟩ = some (.string p.s)) :
    ∀ j u, (cellsOf M)[j]? = some u → w.cell? ((⟨b, o, none⟩ : Addr).add j) = some u := by
  induction M generalizing o with
  | nil => intro j u hu; simp [cellsOf] at hu
  | cons a r ih =>
    intro j u hu
    obtain ⟨c0, c1, c2, c3⟩ := h 0 a rfl
    rw [Addr.add_lit]
    simp only [Nat.zero_mul, Nat.add_zero] at c0 c1 c2 c3
    match j, hu with
    | 0, hu => simp [cellsOf, Pr.cells] at hu; subst hu; exact c0
    | 1, hu => simp [cellsOf, Pr.cells] at hu; subst hu; exact c1
    | 2, hu => simp [cellsOf, Pr.cells] at hu; subst hu; exact c2
    | 3, hu => simp [cellsOf, Pr.cells] at hu; subst hu; exact c3
    | k + 4, hu =>
      have hu' : (cellsOf r)[k]? = some u := by simpa [cellsOf, Pr.cells] using hu
      have := ih (o := o + 4) (fun k p hp => by
        have := h (k + 1) p (by simpa using hp)
        rw [show o + (k + 1) * 4 = o + 4 + k * 4 by omega] at this
        exact this) k u hu'
      rw [Addr.add_lit] at this
      rw [show o + (k + 4) = o + 4 + k by omega]; exact this
theorem Lies.drop {w : World} {b off : Nat} {L : List Pr} (h : Lies w b off L) (i : Nat) : Lies w b (off + i * 4) (L.drop i) := fun k p hp => by
  have := h (i + k) p (by simpa using hp)
  rw [show off + (i + k) * 4 = off + i * 4 + k * 4 by omega] at this
  exact this

set_option maxHeartbeats 4000000 in
set_option maxRecDepth 100000 in
theorem merged_some (b off cap b2 o2 : Nat) (p : Pr) (L : List Pr) (w : World) (hb : b < w.heap.size) (hL : Lies w b off L) (hn : L.length ≤ 8) (hcap : L.length ≤ cap) (hb2 : b2 < w.heap.size) (hp : Lies w b2 o2 [p]) :
    Calls Tryz.prog 122 #[.slice (some ⟨b, off, none⟩) L.length cap, .slice (some ⟨b2, o2, none⟩) 1 1] w fun e w' => ∃ v, e = .returned v ∧ w'.ownsRow w.heap.size 52 4 v (ins p L).length (cellsOf (ins p L)) ∧ Below w.heap.size w w' := by
  obtain ⟨i0, hi0, hz0, hz1, hz2⟩ := info_parts info33
  go_enter Tryz.func122, Tryz.ntmps122
  go_wp2
  go_loopw [0, 1, 5] (fun a bb all wr => MR w b off cap b2 o2 p L a bb all wr) (fun a bb _ _ => slen a + slen bb)
  case atStart => exact ⟨0, off, 1, [], Nat.zero_le _, fun _ => by omega, rfl, rfl, .inl ⟨rfl, rfl, rfl⟩, World.ownsRow_nil _ _ _ _, Below.refl _ _⟩
  case round =>
    obtain ⟨i, o, nb, xs, hi, ho, rfl, rfl, hst, hown, hB⟩ := hrel
    obtain ⟨q0, q1, q2, q3⟩ := hp 0 p rfl
    simp only [Nat.zero_mul, Nat.add_zero] at q0 q1 q2 q3
    have f0 := (hB.cell (p := ⟨b2, o2, none⟩) hb2).trans q0
    have f1 := (hB.cell (p := ⟨b2, o2 + 1, none⟩) hb2).trans q1
    have f2 := (hB.cell (p := ⟨b2, o2 + 2, none⟩) hb2).trans q2
    have f3 := (hB.cell (p := ⟨b2, o2 + 3, none⟩) hb2).trans q3
    clear q0 q1 q2 q3
    have hbase := hB.size
    rcases hst with ⟨rfl, rfl, hins⟩ | ⟨rfl, hins⟩
    · by_cases hlt : i < L.length
      · obtain rfl := ho hlt
        obtain ⟨a0, ha0⟩ : ∃ a0, L[i]? = some a0 := ⟨L[i], by simp [hlt]⟩
        obtain ⟨c0, c1, c2, c3⟩ := hL i a0 ha0
        have d0 := (hB.cell (p := ⟨b, off + i * 4, none⟩) hb).trans c0
        have d1 := (hB.cell (p := ⟨b, off + i * 4 + 1, none⟩) hb).trans c1
        have d2 := (hB.cell (p := ⟨b, off + i * 4 + 2, none⟩) hb).trans c2
        have d3 := (hB.cell (p := ⟨b, off + i * 4 + 3, none⟩) hb).trans c3
        have hD : L.drop i = a0 :: L.drop (i + 1) := drop_at ha0
        have hT : L.take (i + 1) = L.take i ++ [a0] := by
          obtain ⟨hk, rfl⟩ := List.getElem?_eq_some_iff.1 ha0
          exact List.take_succ_eq_append_getElem hk
        have HH : Hid (L.drop i = a0 :: L.drop (i + 1) ∧ L.take (i + 1) = L.take i ++ [a0] ∧ ins p L = L.take i ++ ins p (L.drop i)) := ⟨hD, hT, hins⟩
        obtain ⟨la, hla⟩ : ∃ la, la = L.length - i := ⟨_, rfl⟩
        obtain ⟨ca, hca⟩ : ∃ ca, ca = cap - i := ⟨_, rfl⟩
        have hl0 : 0 < la := by omega
        have hlc : la ≤ ca := by omega
        have hlen : (L.take i).length = i := by simp; omega
        have HL : Hid (la = L.length - i ∧ ca = cap - i ∧ (L.take i).length = i) := ⟨hla, hca, hlen⟩
        have HO : Hid (wr.ownsRow w.heap.size 52 4 u5 (L.take i).length (cellsOf (L.take i))) := hown
        have hi8 : i < 8 := by omega
        rw [← hla, ← hca]
        clear hla hca hlen hD hT hins ha0 c0 c1 c2 c3 hL hp
        have HM : Hid ((L.take i).length + 1 ≤ maxLen ∧ ((L.take i).length + 1) * 48 ≤ 140737488355328) := by
          rw [HL.out.2.2]; unfold maxLen; exact ⟨by omega, by omega⟩
        have hl1 : 1 ≤ (la : Int) := by omega
        have HX : Hid (i < L.length ∧ L.length ≤ cap) := ⟨hlt, hcap⟩
        have HB : Hid (Below w.heap.size w wr) := hB
        clear hown hlt hcap hi ho
        by_cases h1 : a0.lt p = true
        · have h1' : Op.bytesLess a0.nm.toList p.nm.toList = true := h1
          have H1 : Hid (a0.lt p = true) := h1
          clear h1
          go_wp2_with fail
          go_quiet (fail)
          go_wp2_with fail
          by_cases hc1 : ca = 1
          all_goals
            go_region_law (refine step_append_own rfl (.tmp 23) (.tmp 27) 44 rfl w.heap.size 52 i0 _ 4 48 Tryz.underlying44 hi0 hz0 hz1 hz2 rfl (by decide) u5 (L.take i).length (cellsOf (L.take i)) (by simp [Act.eval, Act.put]) (own_al HO.out rfl _) ⟨wr.heap.size, 0, none⟩ 1 1 a0.cells (by simp [Act.eval, Act.put]) rfl (cells_new _ a0) (cells_one a0) HM.out.1 HM.out.2 (by simp; omega) ?_; intro v1 w1 hown1 hgrow1)
            all_goals
              go_wp2
              refine ⟨?_, ?_⟩
              · (repeat apply Exists.intro)
                refine ⟨?_, rfl⟩
                exact mr_a HX.out.1 HX.out.2 HH HL H1.out hown1 ((b_alloc ((b_drewN HB.out _).drew) _).grown hgrow1 (b_alloc ((b_drewN HB.out _).drew) _).size (fun k hk => (HO.out.lt k hk).1)) (by first | exact .inl hc1 | exact .inr rfl) (by omega)
              · simp [Act.put, slen]
                try omega
        · have h1' : Op.bytesLess a0.nm.toList p.nm.toList = false := by simpa [Pr.lt] using h1
          have H1 : Hid (¬ a0.lt p = true) := h1
          clear h1
          by_cases h2 : (a0.nm.toList == p.nm.toList) = true
          · by_cases hc1 : ca = 1
            all_goals
              go_wp2_with fail
              go_quiet (fail)
              go_wp2_with fail
              go_quiet (fail)
              go_wp2_with fail
              go_region_law (refine step_append_own rfl (.tmp 42) (.tmp 46) 44 rfl w.heap.size 52 i0 _ 4 48 Tryz.underlying44 hi0 hz0 hz1 hz2 rfl (by decide) u5 (L.take i).length (cellsOf (L.take i)) (by simp [Act.eval, Act.put]) (own_al HO.out rfl _) ⟨wr.heap.size, 0, none⟩ 1 1 p.cells (by simp [Act.eval, Act.put]) rfl (cells_new _ p) (cells_one p) HM.out.1 HM.out.2 (by simp; omega) ?_; intro v1 w1 hown1 hgrow1)
              all_goals
                refine ⟨?_, ?_⟩
                · (repeat apply Exists.intro)
                  refine ⟨?_, rfl⟩
                  exact mr_b HX.out.1 HX.out.2 HH HL H1.out h2 hown1 ((b_alloc (b_drewN HB.out _) _).grown hgrow1 (b_alloc (b_drewN HB.out _) _).size (fun k hk => (HO.out.lt k hk).1)) (by first | exact .inl hc1 | exact .inr rfl) (by omega)
                · simp [Act.put, slen]
                  try omega
          · have h2' : (a0.nm.toList == p.nm.toList) = false := by simpa using h2
            have H2 : Hid (¬ (a0.nm.toList == p.nm.toList) = true) := h2
            clear h2
            go_wp2_with fail
            go_quiet (fail)
            go_wp2_with fail
            go_quiet (fail)
            go_wp2_with fail
            go_region_law (refine step_append_own rfl (.tmp 42) (.tmp 46) 44 rfl w.heap.size 52 i0 _ 4 48 Tryz.underlying44 hi0 hz0 hz1 hz2 rfl (by decide) u5 (L.take i).length (cellsOf (L.take i)) (by simp [Act.eval, Act.put]) (own_al HO.out rfl _) ⟨wr.heap.size, 0, none⟩ 1 1 p.cells (by simp [Act.eval, Act.put]) rfl (cells_new _ p) (cells_one p) HM.out.1 HM.out.2 (by simp; omega) ?_; intro v1 w1 hown1 hgrow1)
            all_goals
              refine ⟨?_, ?_⟩
              · (repeat apply Exists.intro)
                refine ⟨?_, rfl⟩
                exact mr_c HX.out.1 HX.out.2 HH HL H1.out H2.out hown1 ((b_alloc (b_drewN HB.out _) _).grown hgrow1 (b_alloc (b_drewN HB.out _) _).size (fun k hk => (HO.out.lt k hk).1))
              · simp [Act.put, slen]
                try omega
      · obtain rfl : i = L.length := by omega
        have hT : L.take L.length = L := List.take_length
        have H1 : Hid (ins p L = L ++ [p]) := by
          show _ = _
          rw [hins, hT, List.drop_length]; rfl
        rw [hT] at hown
        have e0 : L.length - L.length = 0 := Nat.sub_self _
        rw [e0]
        have HM : Hid (L.length + 0 ≤ maxLen ∧ (L.length + 0) * 48 ≤ 140737488355328 ∧ L.length + 0 + 1 ≤ maxLen ∧ (L.length + 0 + 1) * 48 ≤ 140737488355328) := by
          unfold maxLen; exact ⟨by omega, by omega, by omega, by omega⟩
        have HO : Hid (wr.ownsRow w.heap.size 52 4 u5 L.length (cellsOf L)) := hown
        have HP : Hid (Lies w b2 o2 [p]) := hp
        have HB : Hid (Below w.heap.size w wr) := hB
        obtain ⟨cc, hcc⟩ : ∃ cc, cc = cap - L.length := ⟨_, rfl⟩
        rw [← hcc]
        clear hT hins e0 ho hown hL hp hB hcc
        go_wp2_with (first
          | (at_builtin; refine wpList_append_own _ rfl (.tmp 50) (.tmp 51) 44 rfl w.heap.size 52 i0 _ 4 48 Tryz.underlying44 hi0 hz0 hz1 hz2 rfl (by decide) u5 L.length (cellsOf L) rfl HO.out ⟨b, o, none⟩ 0 cc [] rfl rfl (by intro j u hu; simp at hu) (by intro u hu; simp at hu) HM.out.1 HM.out.2.1 hbase ?_; intro v1 w1 hown1 hgrow1 _)
          | (at_builtin; refine wpList_append_own _ rfl (.tmp 52) (.tmp 53) 44 rfl w.heap.size 52 i0 _ 4 48 Tryz.underlying44 hi0 hz0 hz1 hz2 rfl (by decide) v1 (L.length + 0) (cellsOf L ++ []) rfl hown1 ⟨b2, o2, none⟩ 1 1 (cellsOf [p]) rfl rfl (lies_cells (HP.out.on hb2 (HB.out.grown hgrow1 HB.out.size (fun k hk => (HO.out.lt k hk).1)))) (cellsOf_one [p]) HM.out.2.2.1 HM.out.2.2.2 (Nat.le_trans hbase hgrow1.size) ?_; intro v2 w2 hown2 hgrow2 _))
        go_ret
        refine ⟨v2, rfl, ?_, ?_⟩
        · rw [H1.out, cellsOf_app]; simpa using hown2
        · have h1 := HB.out.grown hgrow1 HB.out.size (fun k hk => (HO.out.lt k hk).1)
          exact h1.grown hgrow2 h1.size (fun k hk => (hown1.lt k hk).1)
    · have H1 : Hid (xs ++ L.drop i = ins p L) := hins
      obtain ⟨la, hla⟩ : ∃ la, la = L.length - i := ⟨_, rfl⟩
      obtain ⟨cc, hcc⟩ : ∃ cc, cc = cap - i := ⟨_, rfl⟩
      rw [← hla, ← hcc]
      have hx9 : xs.length + la ≤ 9 := by
        have h1 : (xs ++ L.drop i).length = (ins p L).length := by rw [hins]
        have h2 := ins_len p L
        simp at h1; omega
      have HM : Hid (xs.length + la ≤ maxLen ∧ (xs.length + la) * 48 ≤ 140737488355328 ∧ xs.length + la + 0 ≤ maxLen ∧ (xs.length + la + 0) * 48 ≤ 140737488355328) := by
        unfold maxLen; exact ⟨by omega, by omega, by omega, by omega⟩
      have HO : Hid (wr.ownsRow w.heap.size 52 4 u5 xs.length (cellsOf xs)) := hown
      have HB : Hid (Below w.heap.size w wr) := hB
      have HC : Hid (∀ j u, (cellsOf (L.drop i))[j]? = some u → wr.cell? ((⟨b, o, none⟩ : Addr).add j) = some u) := by
        show ∀ j u, _
        by_cases h : i < L.length
        · obtain rfl := ho h
          exact lies_cells ((hL.drop i).on hb hB)
        · rw [List.drop_eq_nil_of_le (by omega)]
          intro j u hu; simp [cellsOf] at hu
      have HLn : Hid ((cellsOf (L.drop i)).length = la * 4) := by
        show _ = _
        rw [cellsOf_len, hla]; simp
      clear hins ho hown hL hp hB hcc hla
      go_wp2_with (first
        | (at_builtin; refine wpList_append_own _ rfl (.tmp 50) (.tmp 51) 44 rfl w.heap.size 52 i0 _ 4 48 Tryz.underlying44 hi0 hz0 hz1 hz2 rfl (by decide) u5 xs.length (cellsOf xs) rfl HO.out ⟨b, o, none⟩ la cc (cellsOf (L.drop i)) rfl HLn.out HC.out (cellsOf_one _) HM.out.1 HM.out.2.1 hbase ?_; intro v1 w1 hown1 hgrow1 _)
        | (at_builtin; refine wpList_append_own _ rfl (.tmp 52) (.tmp 53) 44 rfl w.heap.size 52 i0 _ 4 48 Tryz.underlying44 hi0 hz0 hz1 hz2 rfl (by decide) v1 (xs.length + la) (cellsOf xs ++ cellsOf (L.drop i)) rfl hown1 ⟨b2, o2, none⟩ 0 0 [] rfl rfl (by intro j u hu; simp at hu) (by intro u hu; simp at hu) HM.out.2.2.1 HM.out.2.2.2 (Nat.le_trans hbase hgrow1.size) ?_; intro v2 w2 hown2 hgrow2 _))
      all_goals
        go_ret
        refine ⟨v2, rfl, ?_, ?_⟩
        · rw [← H1.out, cellsOf_app]
          have e : (xs ++ L.drop i).length = xs.length + la := by
            have h := HLn.out
            rw [cellsOf_len] at h
            rw [List.length_append]; omega
          rw [e]; simpa using hown2
        · have h1 := HB.out.grown hgrow1 HB.out.size (fun k hk => (HO.out.lt k hk).1)
          exact h1.grown hgrow2 h1.size (fun k hk => (hown1.lt k hk).1)

end Go.Proofs.YtpmblbhemcippaaGreat
