/-
  The walks of Index.hasNode and Index.hasBond.
-/
import Derived.Test.YtjnjbajnmclmjaaGreatDoorM24
import Derived.Test.YtjnjbajnmclmjaaGreatDoorM11
namespace Go.Proofs.YtjnjbajnmclmjaaGreatDoor
open Go.RowKit
set_option linter.unusedVariables false
set_option linter.unusedSimpArgs false

set_option maxHeartbeats 1000000 in
theorem byId_anyI (n : Nd) (id : Int) (w : World) (hv : ∃ a l c, n.rv = .slice a l c) :
    Calls Tryz.prog 62 #[n.one, .int .i64 id] w fun e w' => e = .returned (.int .i64 (Lib.compareInt n.id id)) ∧ Below w.heap.size w w' := by
  obtain ⟨i, kd, rv, rc⟩ := n
  obtain ⟨a, l, c, rfl⟩ := hv
  have cc := fun w => cmp_any i id w
  simp only
  generalize Lib.compareInt i id = r at cc ⊢
  go_enter Tryz.func62, Tryz.ntmps62
  go_wp2_with (go_at_call 63; refine (cc _).mono ?_; rintro e w' ⟨rfl, rfl⟩)
  go_ret
  exact ⟨rfl, b_alloc (Below.refl _ _) _⟩

set_option maxHeartbeats 4000000 in
set_option maxRecDepth 100000 in
theorem searchN_someI (b off cap : Nat) (L : List Nd) (id : Int) (w : World) (hb : b < w.heap.size) (hL : LiesN w b off L) (hs : SrtN L) (hn : L.length ≤ 96) :
    Calls Tryz.prog 61 #[.slice (some ⟨b, off, none⟩) L.length cap, .int .i64 id, .func (.func 62) #[] #[]] w fun e w' => e = .returned (.tuple #[.int .i64 (loN id L), .bool (fndN id L)]) ∧ Below w.heap.size w w' := by
  have hlo := loN_le id L
  have HS : Hid (LiesN w b off L ∧ SrtN L) := ⟨hL, hs⟩
  clear hL hs
  go_enter Tryz.func61, Tryz.ntmps61
  go_wp2
  go_loopw [9, 10] (fun i j wr => ∃ p q : Nat, p ≤ loN id L ∧ loN id L ≤ q ∧ q ≤ L.length ∧ i = .int .i64 p ∧ j = .int .i64 q ∧ Below w.heap.size w wr) (fun i j _ => (intOf j).toNat - (intOf i).toNat)
  case atStart => exact ⟨0, L.length, Nat.zero_le _, hlo, Nat.le_refl _, rfl, rfl, Below.refl _ _⟩
  case round =>
    obtain ⟨p, q, h1, h2, h3, rfl, rfl, hBw⟩ := hrel
    have HR : Hid (p ≤ loN id L ∧ loN id L ≤ q ∧ Below w.heap.size w wr) := ⟨h1, h2, hBw⟩
    by_cases hlt : p < q
    · obtain ⟨m, hm⟩ : ∃ m, m = (p + q) / 2 := ⟨_, rfl⟩
      have hml : m < L.length := by omega
      have hmq : m < q := by omega
      have hpm : p ≤ m := by omega
      have hdiv : ((p : Int) + (q : Int)) / 2 = (m : Int) := by omega
      obtain ⟨x, hx⟩ : ∃ x, L[m]? = some x := ⟨L[m], by simp [hml]⟩
      obtain ⟨c0, c1, c2, c3⟩ := HS.out.1 m x hx
      have d0 := (hBw.cell (p := ⟨b, off + m * 3, none⟩) hb).trans c0
      have d1 := (hBw.cell (p := ⟨b, off + m * 3 + 1, none⟩) hb).trans c1
      have d2 := (hBw.cell (p := ⟨b, off + m * 3 + 2, none⟩) hb).trans c2
      have hsp := loN_spec id HS.out.2 m x hx
      rw [← cmpI_lt] at hsp
      have cb := fun W => byId_anyI x id W c3.sl
      obtain ⟨av, lv, cv, hv⟩ := c3.sl
      obtain ⟨r, hr⟩ : ∃ r, Lib.compareInt x.id id = r := ⟨_, rfl⟩
      rw [hr] at cb hsp
      obtain ⟨xi, xk, xv, xr⟩ := x
      simp only at hv d0 d1 d2 cb
      subst hv
      clear c0 c1 c2 c3 hr hx hm
      by_cases hr0 : r < 0
      · have HM : Hid (m + 1 ≤ loN id L) := hsp.2 hr0
        clear hsp h1 h2
        go_wp2_with fail
        try rw [hdiv]
        clear hdiv
        go_wp2_with (go_at_call 62; refine (cb _).mono ?_; rintro e W2 ⟨rfl, hB2⟩)
        go_roundw
        case rel => exact ⟨m + 1, q, HM.out, HR.out.2.1, h3, by go_num, rfl, on1K HR.out.2.2 hB2 (Nat.le_refl _)⟩
        case measure => simp [intOf]; omega
      · have HM : Hid (loN id L ≤ m) := by
          show _ ≤ _
          have : ¬ m < loN id L := fun h => hr0 (hsp.1 h)
          omega
        clear hsp h1 h2
        go_wp2_with fail
        try rw [hdiv]
        clear hdiv
        go_wp2_with (go_at_call 62; refine (cb _).mono ?_; rintro e W2 ⟨rfl, hB2⟩)
        go_roundw
        case rel => exact ⟨p, m, HR.out.1, HM.out, by omega, rfl, by go_num, on1K HR.out.2.2 hB2 (Nat.le_refl _)⟩
        case measure => simp [intOf]; omega
    · have hpl : p = loN id L := by omega
      by_cases hl : p < L.length
      · obtain ⟨x, hx⟩ : ∃ x, L[p]? = some x := ⟨L[p], by simp [hl]⟩
        obtain ⟨c0, c1, c2, c3⟩ := HS.out.1 p x hx
        have d0 := (hBw.cell (p := ⟨b, off + p * 3, none⟩) hb).trans c0
        have d1 := (hBw.cell (p := ⟨b, off + p * 3 + 1, none⟩) hb).trans c1
        have d2 := (hBw.cell (p := ⟨b, off + p * 3 + 2, none⟩) hb).trans c2
        have cb := fun W => byId_anyI x id W c3.sl
        obtain ⟨av, lv, cv, hv⟩ := c3.sl
        have hfnd : fndN id L = (Lib.compareInt x.id id == 0) := by
          unfold fndN; rw [← hpl, hx]; simp only
          rw [Bool.eq_iff_iff, beq_iff_eq, beq_iff_eq]; exact (cmpI_zero x.id id).symm
        obtain ⟨r, hr⟩ : ∃ r, Lib.compareInt x.id id = r := ⟨_, rfl⟩
        rw [hr] at cb hfnd
        have HF : Hid (fndN id L = (r == 0) ∧ p = loN id L) := ⟨hfnd, hpl⟩
        have hpi : (p : Int) < (L.length : Int) := by omega
        have hpd : decide ((p : Int) < (L.length : Int)) = true := by simpa using hpi
        obtain ⟨xi, xk, xv, xr⟩ := x
        simp only at hv d0 d1 d2 cb
        subst hv
        clear c0 c1 c2 c3 hr hx hfnd hpl h1 h2
        go_wp2_with (go_at_call 62; refine (cb _).mono ?_; rintro e W2 ⟨rfl, hB2⟩)
        go_ret2
        exact ⟨ret_v (by rw [HF.out.1, ← HF.out.2]; rfl), on1K HR.out.2.2 hB2 (Nat.le_refl _)⟩
      · have hfnd : fndN id L = false := by
          unfold fndN; rw [← hpl, List.getElem?_eq_none (by omega)]
        have HF : Hid (fndN id L = false ∧ p = loN id L) := ⟨hfnd, hpl⟩
        have hpi : ¬ (p : Int) < (L.length : Int) := by omega
        have hpd : decide ((p : Int) < (L.length : Int)) = false := by simpa using hpi
        clear hfnd hpl h1 h2
        go_wp2
        go_ret2
        exact ⟨ret_v (by rw [HF.out.1, ← HF.out.2]; rfl), HR.out.2.2⟩
set_option maxHeartbeats 4000000 in
theorem searchN_nilI (ao : Option Addr) (c : Nat) (id : Int) (w : World) :
    Calls Tryz.prog 61 #[.slice ao 0 c, .int .i64 id, .func (.func 62) #[] #[]] w fun e w' => e = .returned (.tuple #[.int .i64 0, .bool false]) ∧ Below w.heap.size w w' := by
  go_enter Tryz.func61, Tryz.ntmps61
  go_wp2
  go_loopw [9, 10] (fun i j wr => i = .int .i64 0 ∧ j = .int .i64 0 ∧ wr = w) (fun i j _ => 0)
  case atStart => exact ⟨rfl, rfl, rfl⟩
  case round =>
    obtain ⟨rfl, rfl, rfl⟩ := hrel
    go_wp2
    go_ret2
    exact ⟨rfl, Below.refl _ _⟩
theorem searchN_anyI {v : Value} {L : List Nd} {w : World} (h : IsN w v L) (hs : SrtN L) (hn : L.length ≤ 96) (id : Int) :
    Calls Tryz.prog 61 #[v, .int .i64 id, .func (.func 62) #[] #[]] w fun e w' => e = .returned (.tuple #[.int .i64 (loN id L), .bool (fndN id L)]) ∧ Below w.heap.size w w' := by
  obtain ⟨ao, c, rfl, hc, rfl | ⟨b, off, rfl, hb, hl⟩⟩ := h
  · exact searchN_nilI ao c id w
  · exact searchN_someI b off c L id w hb hl hs hn
set_option maxHeartbeats 1000000 in
theorem bname_anyI (k : Bd) (b : Nat) (s : Nm) (w : World) (hc : w.cell? ⟨b, 0, none⟩ = some (.string (bs s))) (hb : b < w.heap.size) :
    Calls Tryz.prog 65 #[k.one, .pointer (some ⟨b, 0, none⟩)] w fun e w' => e = .returned (.bool (k.nm == s)) ∧ w' = w.alloc (.cells #[.string (bs k.nm), .string (bs k.fr), .string (bs k.tt), .int .i64 k.mn, .int .i64 k.mx] 122) := by
  go_enter Tryz.func65, Tryz.ntmps65
  go_wp2
  go_ret
  exact ⟨by simp, rfl⟩
set_option maxHeartbeats 4000000 in
set_option maxRecDepth 100000 in
theorem idxFB_someI (b off cap : Nat) (L : List Bd) (bn : Nat) (s : Nm) (w : World) (hb : b < w.heap.size) (hL : LiesB w b off L) (hn : L.length ≤ 12) (hbn : bn < w.heap.size) (hc : w.cell? ⟨bn, 0, none⟩ = some (.string (bs s))) :
    Calls Tryz.prog 83 #[.slice (some ⟨b, off, none⟩) L.length cap, .func (.func 65) #[] #[.pointer (some ⟨bn, 0, none⟩)]] w fun e w' => e = .returned (.int .i64 (idxB s L 0)) ∧ Below w.heap.size w w' := by
  go_enter Tryz.func83, Tryz.ntmps83
  go_wp2
  go_loopw [8] (fun i wr => ∃ k : Nat, k ≤ L.length ∧ i = .int .i64 k ∧ idxB s L 0 = idxB s (L.drop k) k ∧ Below w.heap.size w wr) (fun i _ => L.length - (intOf i).toNat)
  case atStart => exact ⟨0, Nat.zero_le _, rfl, rfl, Below.refl _ _⟩
  case round =>
    obtain ⟨k, hk, rfl, hi, hB⟩ := hrel
    have HI : Hid (idxB s L 0 = idxB s (L.drop k) k) := hi
    clear hi
    by_cases hlt : k < L.length
    · obtain ⟨p, hp⟩ : ∃ p, L[k]? = some p := ⟨L[k], by simp [hlt]⟩
      obtain ⟨c0, c1, c2, c3, c4⟩ := hL k p hp
      have d0 := (hB.cell (p := ⟨b, off + k * 5, none⟩) hb).trans c0
      have d1 := (hB.cell (p := ⟨b, off + k * 5 + 1, none⟩) hb).trans c1
      have d2 := (hB.cell (p := ⟨b, off + k * 5 + 2, none⟩) hb).trans c2
      have d3 := (hB.cell (p := ⟨b, off + k * 5 + 3, none⟩) hb).trans c3
      have d4 := (hB.cell (p := ⟨b, off + k * 5 + 4, none⟩) hb).trans c4
      have HD : Hid (L.drop k = p :: L.drop (k + 1)) := dropK hp
      have cn := bname_anyI p bn s wr ((hB.cell (p := ⟨bn, 0, none⟩) hbn).trans hc) (Nat.lt_of_lt_of_le hbn hB.size)
      clear c0 c1 c2 c3 c4 hp hL hc
      by_cases hq : (p.nm == s) = true
      · have H : Hid (idxB s L 0 = k) := by
          show _ = _
          rw [HI.out, HD.out]; unfold idxB; rw [if_pos hq]
        rw [hq] at cn
        clear HI HD hq
        go_wp2_with (go_at_call 65; refine cn.mono ?_; rintro e w' ⟨rfl, rfl⟩)
        go_ret
        exact ⟨ret_v (by rw [H.out]; rfl), b_allocKC hB (Nat.le_refl _) _⟩
      · have H : Hid (idxB s L 0 = idxB s (L.drop (k + 1)) (k + 1)) := by
          show _ = _
          rw [HI.out, HD.out]; conv => lhs; unfold idxB
          rw [if_neg hq]
        have hq' : (p.nm == s) = false := by simpa using hq
        rw [hq'] at cn
        clear HI HD hq hq'
        go_wp2_with (go_at_call 65; refine cn.mono ?_; rintro e w' ⟨rfl, rfl⟩)
        go_roundw
        case rel => exact ⟨k + 1, by omega, by go_num, H.out, b_allocKC hB (Nat.le_refl _) _⟩
        case measure => simp [intOf]; omega
    · have hd : L.drop k = [] := List.drop_eq_nil_of_le (by omega)
      have H : Hid (idxB s L 0 = -1) := by
        show _ = _
        rw [HI.out, hd]; rfl
      clear HI hd hL hc
      go_wp2
      go_ret
      exact ⟨ret_v (by rw [H.out]; rfl), hB⟩
set_option maxHeartbeats 1000000 in
theorem idxFB_nilI (f : Value) (w : World) :
    Calls Tryz.prog 83 #[.slice none 0 0, f] w fun e w' => e = .returned (.int .i64 (-1)) ∧ Below w.heap.size w w' := by
  go_enter Tryz.func83, Tryz.ntmps83
  go_wp2
  go_loopw [8] (fun i wr => i = .int .i64 0 ∧ wr = w) (fun i _ => 0)
  case atStart => exact ⟨rfl, rfl⟩
  case round =>
    obtain ⟨rfl, rfl⟩ := hrel
    go_wp2
    go_ret
    exact ⟨rfl, Below.refl _ _⟩
theorem idxFB_anyI {v : Value} {L : List Bd} {w : World} (h : IsB w v L) (hn : L.length ≤ 12) (bn : Nat) (s : Nm) (hbn : bn < w.heap.size) (hc : w.cell? ⟨bn, 0, none⟩ = some (.string (bs s))) :
    Calls Tryz.prog 83 #[v, .func (.func 65) #[] #[.pointer (some ⟨bn, 0, none⟩)]] w fun e w' => e = .returned (.int .i64 (idxB s L 0)) ∧ Below w.heap.size w w' := by
  rcases h with ⟨rfl, rfl⟩ | ⟨b, off, cap, rfl, hcap, hm, hb, hl⟩
  · exact idxFB_nilI _ w
  · exact idxFB_someI b off cap L bn s w hb hl hn hbn hc
set_option maxHeartbeats 1000000 in
theorem hasNode_any {v : Value} {b : Nat} {L : List Nd} {w : World} (hx : w.cell? ⟨b, 3, none⟩ = some v) (h : IsN w v L) (hs : SrtN L) (hn : L.length ≤ 96) (id : Int) :
    Calls Tryz.prog 38 #[.pointer (some ⟨b, 0, none⟩), .int .i64 id] w fun e w' => e = .returned (.bool (fndN id L)) ∧ Below w.heap.size w w' := by
  have cs := searchN_anyI h hs hn id
  obtain ⟨ao, c, rfl, _⟩ := h
  generalize loN id L = lo at cs ⊢
  generalize fndN id L = f at cs ⊢
  go_enter Tryz.func38, Tryz.ntmps38
  go_wp2_with (go_at_call 61; refine cs.mono ?_; rintro e W2 ⟨rfl, hB2⟩)
  go_ret
  exact ⟨rfl, hB2⟩
set_option maxHeartbeats 1000000 in
theorem containsB_any {v : Value} {L : List Bd} {w : World} (h : IsB w v L) (hn : L.length ≤ 12) (bn : Nat) (s : Nm) (hbn : bn < w.heap.size) (hc : w.cell? ⟨bn, 0, none⟩ = some (.string (bs s))) :
    Calls Tryz.prog 64 #[v, .func (.func 65) #[] #[.pointer (some ⟨bn, 0, none⟩)]] w fun e w' => e = .returned (.bool (decide (0 ≤ idxB s L 0))) ∧ Below w.heap.size w w' := by
  have c := idxFB_anyI h hn bn s hbn hc
  generalize idxB s L 0 = r at c ⊢
  clear h hn hc
  go_enter Tryz.func64, Tryz.ntmps64
  go_wp2_with (go_at_call 83; refine c.mono ?_; rintro e w' ⟨rfl, hB1⟩)
  go_ret
  exact ⟨ret_v rfl, hB1⟩
set_option maxHeartbeats 1000000 in
theorem hasBond_any {v : Value} {b : Nat} {L : List Bd} {w : World} (hb : b < w.heap.size) (hx : w.cell? ⟨b, 1, none⟩ = some v) (h : IsB w v L) (hn : L.length ≤ 12) (s : Nm) :
    Calls Tryz.prog 39 #[.pointer (some ⟨b, 0, none⟩), .string (bs s)] w fun e w' => e = .returned (.bool (decide (0 ≤ idxB s L 0))) ∧ Below w.heap.size w w' := by
  have hB0 : Below w.heap.size w (w.alloc (.cells #[.string (bs s)] 9)) := b_allocKC (Below.refl _ _) (Nat.le_refl _) _
  have c := containsB_any (h.on hB0) hn w.heap.size s (by simp) (by simp)
  have hx' := (hB0.cell (p := ⟨b, 1, none⟩) hb).trans hx
  have hne : ¬ b = w.heap.size := by omega
  generalize decide (0 ≤ idxB s L 0) = r at c ⊢
  clear h hn
  go_enter Tryz.func39, Tryz.ntmps39
  go_wp2_with (go_at_call 64; refine c.mono ?_; rintro e w' ⟨rfl, hB1⟩)
  go_ret
  exact ⟨rfl, on1KC hB0 hB1 (Nat.le_refl _)⟩
end Go.Proofs.YtjnjbajnmclmjaaGreatDoor

/-
  The walk of graph.Copy.
-/
namespace Go.Proofs.YtjnjbajnmclmjaaGreatDoor
open Go.RowKit
set_option linter.unusedVariables false
set_option linter.unusedSimpArgs false

/-- Where the loop of Copy stands. -/
def CpI (W0 : World) (p : Nat) (vt : Value) (N : List Nd) (T : List Te) (k : Nat) (wr : World) : Prop := ∃ (M : List Nd) (vn : Value), M.length = k ∧ cN M = cN (N.take k) ∧ wr.heap[p]? = some (.cells #[vn, vt] 29 (0, 0)) ∧ OwnNs wr W0.heap.size vn M ∧ OwnTs wr W0.heap.size vt T ∧ Below W0.heap.size W0 wr
theorem cpI_step {W0 wr W2 w1 : World} {p k : Nat} {vn vt v2 v1 : Value} {N M : List Nd} {T : List Te} {n : Nd} (hp : W0.heap.size ≤ p) (hn : N[k]? = some n) (hM : M.length = k) (hc : cN M = cN (N.take k)) (hX : wr.heap[p]? = some (.cells #[vn, vt] 29 (0, 0))) (hN : OwnNs wr W0.heap.size vn M) (hT : OwnTs wr W0.heap.size vt T) (hB : Below W0.heap.size W0 wr)
    (hB2 : Below wr.heap.size wr W2) (hR : OwnRc W2 wr.heap.size v2 n.rc) (hg : (W2.alloc (.cells #[.int .i64 n.id, .string n.kd, v2] 44)).grownBy w1 vn.ownBlock) (ho : w1.ownsRow W0.heap.size 44 3 v1 (k + 1) (cellsN M ++ [.int .i64 n.id, .string n.kd, v2])) :
    (w1.cell? ⟨p, 0, none⟩ = some vn ∧ w1.frozen? ⟨p, 0, none⟩ = false) ∧ CpI W0 p vt N T (k + 1) (w1.setCell ⟨p, 0, none⟩ v1) := by
  have hBa : Below wr.heap.size wr (W2.alloc (.cells #[.int .i64 n.id, .string n.kd, v2] 44)) := on1K hB2 (b_alloc (Below.refl _ _) _) (Nat.le_refl _)
  have hNa := own_kt hN.1 (Kt.of_below hBa)
  have hXa := (hBa.block p (Array.getElem?_eq_some_iff.1 hX).1).trans hX
  have hX1 := (hg.block p (Array.getElem?_eq_some_iff.1 hXa).1 (fun e => row_apart hNa hXa (by decide) e.symm)).trans hXa
  have k40 : Kt 40 wr (w1.setCell ⟨p, 0, none⟩ v1) := ((Kt.of_below hBa).trans (.of_own hNa (by decide) hg)).set hX1 (by decide) _ _
  have k54 : Kt 54 wr (w1.setCell ⟨p, 0, none⟩ v1) := ((Kt.of_below hBa).trans (.of_own hNa (by decide) hg)).set hX1 (by decide) _ _
  have k40' : Kt 40 W2 (w1.setCell ⟨p, 0, none⟩ v1) := (((Kt.refl _ _).alloc _).trans (.of_own hNa (by decide) hg)).set hX1 (by decide) _ _
  refine ⟨⟨cell_at hX1 rfl, frz_at hX1⟩, M ++ [⟨n.id, n.kd, v2, n.rc⟩], v1, by simp [hM], ?_, (heap_setCell_same w1 p 0 _ 29 _ hX1).trans rfl, ⟨?_, fun x hx => ?_⟩, hT.kt k54, ?_⟩
  · have e : N.take (k + 1) = N.take k ++ [n] := by rw [List.take_add_one, hn]; rfl
    unfold cN at *
    rw [e, List.map_append, List.map_append, hc]
    rfl
  · rw [List.length_append, hM, cellsN_snoc]
    exact own_set ho (row_apart ho hX1 (by decide)) _ _
  · rcases List.mem_append.1 hx with hx | hx
    · exact (hN.2 x hx).kt k40
    · obtain rfl : x = ⟨n.id, n.kd, v2, n.rc⟩ := by simpa using hx
      exact OwnRc.kt (own_base hR hB.size) k40'
  · exact (below_grown (on1K hB hBa (Nat.le_refl _)) hg (Nat.le_trans hB.size hBa.size) (fun g hg' => (hNa.lt g hg').1)).setCell (p := ⟨p, 0, none⟩) hp _
set_option maxHeartbeats 4000000 in
set_option maxRecDepth 100000 in
theorem copied_any {vn vt : Value} {N : List Nd} {T : List Te} {w : World} (hN : IsN w vn N) (hT : IsT w vt T) (h60 : N.length ≤ 60) (h120 : T.length ≤ 120) (h8 : ∀ n ∈ N, n.rc.length ≤ 1000) :
    Calls Tryz.prog 24 #[.agg #[vn, vt]] w fun e w' => ∃ un ut M, e = .returned (.agg #[un, ut]) ∧ cN M = cN N ∧ OwnNs w' w.heap.size un M ∧ OwnTs w' w.heap.size ut T ∧ Below w.heap.size w w' := by
  obtain ⟨i0, hi0, hz0, hz1, hz2⟩ := info_parts infoN
  obtain ⟨W0, hW0⟩ : ∃ W0, W0 = (w.alloc (.cells #[vn, vt] 29)).alloc (.cells #[.slice none 0 0, .slice none 0 0] 29) := ⟨_, rfl⟩
  have hB0 : Below w.heap.size w W0 := by rw [hW0]; exact b_alloc (b_alloc (Below.refl _ _) _) _
  have hs0 : W0.heap.size = w.heap.size + 2 := by rw [hW0]; simp
  have n0 : W0.heap[w.heap.size]? = some (.cells #[vn, vt] 29 (0, 0)) := by rw [hW0]; exact (heap_alloc_old _ _ (by simp)).trans (heap_alloc_new w _)
  have n1 : W0.heap[w.heap.size + 1]? = some (.cells #[.slice none 0 0, .slice none 0 0] 29 (0, 0)) := by
    have := heap_alloc_new (w.alloc (.cells #[vn, vt] 29)) (.cells #[.slice none 0 0, .slice none 0 0] 29)
    rw [World.size_alloc] at this; rw [hW0]; exact this
  have clT := fun (ty : TypeId) => clone_ties W0 W0.heap.size (Nat.le_refl _) (hT.on hB0) (by omega) ty
  have HH : Hid (Below w.heap.size w W0 ∧ W0.heap.size = w.heap.size + 2 ∧ W0.heap[w.heap.size]? = some (.cells #[vn, vt] 29 (0, 0)) ∧ W0.heap[w.heap.size + 1]? = some (.cells #[.slice none 0 0, .slice none 0 0] 29 (0, 0)) ∧ IsN w vn N) := ⟨hB0, hs0, n0, n1, hN⟩
  obtain ⟨an, cn, rfl, _⟩ := hN
  obtain ⟨am, cm, rfl, _⟩ := hT
  have c1 : W0.cell? ⟨w.heap.size, 1, none⟩ = some (.slice am T.length cm) := cell_at n0 rfl
  clear hB0 n0 n1 hs0
  go_enter Tryz.func24, Tryz.ntmps24
  go_upto_region 1 with fail
  rw [← hW0]
  clear hW0
  go_wp2_with (first | (at_builtin; refine wpList_append_E rfl _ _ 27 rfl _ _ rfl rfl (clT _) ?_; rintro v1 w1 ⟨hown, hgrow⟩; refine Hid.out ?_))
  refine Lib.hid ?_
  obtain ⟨a2, p2, rfl⟩ := own_slice hown
  have hb1 := grown_below hgrow
  obtain ⟨Wc, hWc⟩ : ∃ Wc, Wc = w1.alloc (.cells #[.slice none 0 0, .slice a2 T.length p2] 29) := ⟨_, rfl⟩
  have nc : Wc.heap[w1.heap.size]? = some (.cells #[.slice none 0 0, .slice a2 T.length p2] 29 (0, 0)) := by rw [hWc]; exact heap_alloc_new w1 _
  have hBc : Below W0.heap.size W0 Wc := by rw [hWc]; exact b_alloc hb1 _
  have HI0 : Hid (CpI W0 w1.heap.size (.slice a2 T.length p2) N T 0 Wc ∧ W0.heap.size ≤ w1.heap.size) := ⟨⟨[], .slice none 0 0, rfl, rfl, nc, ⟨World.ownsRow_nil _ _ _ _, fun n hn => by cases hn⟩, by rw [hWc]; exact World.ownsRow.alloc hown _, hBc⟩, hb1.size⟩
  have c0 : Wc.cell? ⟨w.heap.size, 0, none⟩ = some (.slice an N.length cn) := cell_at ((hBc.block _ (by have := HH.out.2.1; omega)).trans HH.out.2.2.1) rfl
  have HWc := Lib.hid hWc
  clear hown hgrow hb1 nc hBc hWc clT c1
  go_upto_region 2 with fail
  rw [← HWc.out]
  go_wp2
  go_loopw [13] (fun i wr => ∃ k : Nat, k ≤ N.length ∧ i = .int .i64 k ∧ CpI W0 w1.heap.size (.slice a2 T.length p2) N T k wr) (fun i _ => N.length - (intOf i).toNat)
  case atStart => exact ⟨0, Nat.zero_le _, rfl, HI0.out.1⟩
  case round =>
    obtain ⟨k, hk, rfl, hC⟩ := hrel
    obtain ⟨M, vm, hM, hcN, hX, hNs, hTs, hB⟩ := hC
    obtain ⟨a1, p1, e1⟩ := own_slice hNs.1
    rw [hM] at e1
    subst e1
    by_cases hlt : k < N.length
    · obtain ⟨n, hn⟩ : ∃ n, N[k]? = some n := ⟨N[k], by simp [hlt]⟩
      have hbw := on1K HH.out.1 hB (Nat.le_refl _)
      obtain ⟨b, off, ean, hbl, ⟨d0, d1, d2⟩, hR0⟩ : ∃ b off, an = some ⟨b, off, none⟩ ∧ b < w.heap.size ∧ (w.cell? ⟨b, off + k * 3, none⟩ = some (.int .i64 n.id) ∧ w.cell? ⟨b, off + k * 3 + 1, none⟩ = some (.string n.kd) ∧ w.cell? ⟨b, off + k * 3 + 2, none⟩ = some n.rv) ∧ IsR w n.rv n.rc := by
        obtain ⟨a', c', e, hle, h0 | ⟨b, off, e2, hb, hL⟩⟩ := HH.out.2.2.2.2
        · rw [h0] at hlt; simp at hlt
        · injection e with e _ _
          obtain ⟨q0, q1, q2, q3⟩ := hL k n hn
          exact ⟨b, off, e.trans e2, hb, ⟨q0, q1, q2⟩, q3⟩
      subst ean
      have d0 := (hbw.cell (p := ⟨b, off + k * 3, none⟩) hbl).trans d0
      have d1 := (hbw.cell (p := ⟨b, off + k * 3 + 1, none⟩) hbl).trans d1
      have d2 := (hbw.cell (p := ⟨b, off + k * 3 + 2, none⟩) hbl).trans d2
      have hRn := h8 n (List.mem_of_getElem? hn)
      obtain ⟨av, lv, cv, hv⟩ := hR0.sl
      obtain ⟨id, kd, rv, rc⟩ := n
      simp only at hv d0 d1 d2 hRn hR0
      subst hv
      obtain ⟨W1, hW1⟩ : ∃ W1, W1 = wr.alloc (.cells #[.int .i64 id, .string kd, .slice av lv cv] 44) := ⟨_, rfl⟩
      have hB1 : Below wr.heap.size wr W1 := by rw [hW1]; exact b_alloc (Below.refl _ _) _
      have nn : W1.heap[wr.heap.size]? = some (.cells #[.int .i64 id, .string kd, .slice av lv cv] 44 (0, 0)) := by rw [hW1]; exact heap_alloc_new wr _
      have cc := copiedNode_any ⟨id, kd, .slice av lv cv, rc⟩ W1.drew (hR0.on (on1K hbw (b_drew hB1) (Nat.le_refl _))) hRn
      have x0 : W1.drew.cell? ⟨w1.heap.size, 0, none⟩ = some (.slice a1 k p1) := (hB1.cell (p := ⟨w1.heap.size, 0, none⟩) (Array.getElem?_eq_some_iff.1 hX).1).trans (cell_at hX rfl)
      have e0 : W1.drew.cell? ⟨wr.heap.size, 0, none⟩ = some (.int .i64 id) := cell_at (w := W1) nn rfl
      have e1 : W1.drew.cell? ⟨wr.heap.size, 1, none⟩ = some (.string kd) := cell_at (w := W1) nn rfl
      have e2 : W1.drew.cell? ⟨wr.heap.size, 2, none⟩ = some (.slice av lv cv) := cell_at (w := W1) nn rfl
      have HP : Hid (∀ W2, Below W1.drew.heap.size W1.drew W2 → Below wr.heap.size wr W2 ∧ W2.cell? ⟨w1.heap.size, 0, none⟩ = some (.slice a1 k p1) ∧ ∀ o, (W2.alloc o).cell? ⟨w1.heap.size, 0, none⟩ = some (.slice a1 k p1)) := fun W2 h2 => by
        have h := on1K hB1 (b_undrew h2) (Nat.le_refl _)
        have hc := (h.cell (p := ⟨w1.heap.size, 0, none⟩) (Array.getElem?_eq_some_iff.1 hX).1).trans (cell_at hX rfl)
        exact ⟨h, hc, cell_old hc⟩
      have HO : Hid (∀ W2 v2, Below wr.heap.size wr W2 → (W2.alloc (.cells #[.int .i64 id, .string kd, v2] 44)).ownsRow W0.heap.size 44 3 (.slice a1 k p1) k (cellsN M) ∧ W0.heap.size ≤ (W2.alloc (.cells #[.int .i64 id, .string kd, v2] 44)).heap.size) := fun W2 v2 h2 => by
        have hBa := on1K h2 (b_alloc (Below.refl _ W2) (.cells #[.int .i64 id, .string kd, v2] 44)) (Nat.le_refl _)
        have := own_kt hNs.1 (Kt.of_below (t := 44) hBa)
        rw [hM] at this
        exact ⟨this, Nat.le_trans hB.size hBa.size⟩
      have HSt : Hid (∀ W2 v2 w3 v1, Below wr.heap.size wr W2 → OwnRc W2 wr.heap.size v2 rc → (W2.alloc (.cells #[.int .i64 id, .string kd, v2] 44)).grownBy w3 (Value.slice a1 k p1).ownBlock → w3.ownsRow W0.heap.size 44 3 v1 (k + 1) (cellsN M ++ [.int .i64 id, .string kd, v2]) → (w3.cell? ⟨w1.heap.size, 0, none⟩ = some (.slice a1 k p1) ∧ w3.frozen? ⟨w1.heap.size, 0, none⟩ = false) ∧ CpI W0 w1.heap.size (.slice a2 T.length p2) N T (k + 1) (w3.setCell ⟨w1.heap.size, 0, none⟩ v1)) := fun W2 v2 w3 v1 q1 q2 q3 q4 => cpI_step HI0.out.2 hn hM hcN hX hNs hTs hB q1 q2 q3 q4
      have HM : Hid (k + 1 ≤ maxLen ∧ (k + 1) * 48 ≤ 140737488355328) := by unfold maxLen; exact ⟨by omega, by omega⟩
      have hzw : Hid (wr.heap.size ≤ W1.drew.heap.size) := hB1.size
      have HW1 := Lib.hid hW1
      have hnb : ¬ b = wr.heap.size := by have := hbw.size; omega
      clear hM hcN hX hNs hTs hB hR0 hRn hbw hB1 nn hn hW1 hbl
      go_upto_region 5 with fail
      rw [← HW1.out]
      go_region_law (first | (go_simp; go_at_call 34; refine cc.mono ?_; rintro e W2 ⟨v2, rfl, hR2, hB2⟩; obtain ⟨hb2, y0, y1⟩ := HP.out W2 hB2; obtain ⟨u2, l2, q2, rfl⟩ := OwnRc.sl hR2; have HR2 : Hid (OwnRc W2 wr.heap.size (.slice u2 l2 q2) rc ∧ Below wr.heap.size wr W2) := ⟨own_base hR2 hzw.out, hb2⟩; clear hR2 hB2 hb2) | (refine step_append_own rfl (.tmp 18) (.tmp 21) 26 rfl W0.heap.size 44 i0 _ 3 48 Tryz.underlying26 hi0 hz0 hz1 hz2 rfl (by decide) (.slice a1 k p1) k (cellsN M) (by simp [Act.eval, Act.put]) (HO.out W2 _ HR2.out.2).1 ⟨W2.heap.size, 0, none⟩ 1 1 [.int .i64 id, .string kd, .slice u2 l2 q2] (by simp [Act.eval, Act.put]) rfl (new_at _ _ _) (by simp [Value.oneCell']) HM.out.1 HM.out.2 (HO.out W2 _ HR2.out.2).2 ?_; intro v1 w3 hown1 hgrow1; obtain ⟨⟨z0, z1⟩, hcp⟩ := HSt.out W2 _ w3 v1 HR2.out.2 HR2.out.1 hgrow1 hown1; obtain ⟨a3, c3, rfl⟩ := own_slice hown1; have HCp := Lib.hid hcp; clear hcp hown1 hgrow1))
      all_goals
        go_wp2
        refine ⟨?_, ?_⟩
        · first | exact ⟨k + 1, by omega, by go_num, HCp.out⟩ | ((repeat apply Exists.intro); refine ⟨?_, rfl⟩; exact ⟨k + 1, by omega, by go_num, HCp.out⟩)
        · simp [intOf]
          try omega
    · obtain rfl : k = N.length := by omega
      rw [List.take_length] at hcN
      have hr1 := (hB.block _ (by have := HH.out.2.1; omega)).trans HH.out.2.2.2.1
      have HF : Hid (cN M = cN N ∧ OwnNs wr W0.heap.size (.slice a1 N.length p1) M ∧ OwnTs wr W0.heap.size (.slice a2 T.length p2) T ∧ Below w.heap.size w wr ∧ Ty wr (w.heap.size + 1) 29) := ⟨hcN, hNs, hTs, on1K HH.out.1 hB (Nat.le_refl _), _, hr1⟩
      have e0 : wr.cell? ⟨w1.heap.size, 0, none⟩ = some (.slice a1 N.length p1) := cell_at hX rfl
      have e1 : wr.cell? ⟨w1.heap.size, 1, none⟩ = some (.slice a2 T.length p2) := cell_at hX rfl
      have r0 : wr.cell? ⟨w.heap.size + 1, 0, none⟩ = some (.slice none 0 0) := cell_at hr1 rfl
      have r1 : wr.cell? ⟨w.heap.size + 1, 1, none⟩ = some (.slice none 0 0) := cell_at hr1 rfl
      have s0 : wr.frozen? ⟨w.heap.size + 1, 0, none⟩ = false := frz_at hr1
      have s1 : wr.frozen? ⟨w.heap.size + 1, 1, none⟩ = false := frz_at hr1
      have t1 : ((wr.setCell ⟨w.heap.size + 1, 0, none⟩ (.slice a1 N.length p1)).setCell ⟨w.heap.size + 1, 1, none⟩ (.slice a2 T.length p2)).heap[w.heap.size + 1]? = some (.cells #[.slice a1 N.length p1, .slice a2 T.length p2] 29 (0, 0)) := heap_setCell_same _ _ 1 _ 29 _ (heap_setCell_same wr _ 0 _ 29 _ hr1)
      have HT : Hid (((wr.setCell ⟨w.heap.size + 1, 0, none⟩ (.slice a1 N.length p1)).setCell ⟨w.heap.size + 1, 1, none⟩ (.slice a2 T.length p2)).cell? ⟨w.heap.size + 1, 0, none⟩ = some (.slice a1 N.length p1) ∧ ((wr.setCell ⟨w.heap.size + 1, 0, none⟩ (.slice a1 N.length p1)).setCell ⟨w.heap.size + 1, 1, none⟩ (.slice a2 T.length p2)).cell? ⟨w.heap.size + 1, 1, none⟩ = some (.slice a2 T.length p2)) := ⟨cell_at t1 rfl, cell_at t1 rfl⟩
      clear hcN hX hNs hTs hB hr1 t1 hk
      go_wp2
      obtain ⟨f1, f2, f3, f4, f5⟩ := HF.out
      obtain ⟨t0, t1⟩ := HT.out
      have hs0' : w.heap.size ≤ W0.heap.size := HH.out.1.size
      refine bodyPost_ret (v := .agg #[.slice a1 N.length p1, .slice a2 T.length p2]) ?_ rfl ⟨_, _, M, rfl, f1, ?_, ?_, ?_⟩
      · simp [results, Tryz.results24, go_sem, t0, t1]
      · exact ⟨own_base (own_kt f2.1 (((Kt.refl _ _).ty f5 (by decide) _ _).ty (f5.set _ _ _) (by decide) _ _)) hs0', fun n hn => own_base ((f2.2 n hn).kt (((Kt.refl _ _).ty f5 (by decide) _ _).ty (f5.set _ _ _) (by decide) _ _)) hs0'⟩
      · exact own_base (f3.kt (((Kt.refl _ _).ty f5 (by decide) _ _).ty (f5.set _ _ _) (by decide) _ _)) hs0'
      · exact (f4.setCell (by show _ ≤ w.heap.size + 1; omega) _).setCell (by show _ ≤ w.heap.size + 1; omega) _
end Go.Proofs.YtjnjbajnmclmjaaGreatDoor

/-
  The walk of Index.Graph.
-/
namespace Go.Proofs.YtjnjbajnmclmjaaGreatDoor
open Go.RowKit
set_option linter.unusedVariables false
set_option linter.unusedSimpArgs false

/-- The cells of an index. -/
def IxC (w : World) (b : Nat) (vk vb vn vt : Value) (s m1 m2 m3 : Nat) : Prop := w.heap[b]? = some (.cells #[vk, vb, .map (some s), vn, vt, .map (some m1), .map (some m2), .map (some m3)] 86 (0, 0))
theorem IxC.on {w w' : World} {b : Nat} {vk vb vn vt : Value} {s m1 m2 m3 : Nat} (h : IxC w b vk vb vn vt s m1 m2 m3) (hB : Below w.heap.size w w') : IxC w' b vk vb vn vt s m1 m2 m3 := (hB.block b (Array.getElem?_eq_some_iff.1 h).1).trans h
set_option maxHeartbeats 4000000 in
set_option maxRecDepth 100000 in
theorem igraph_any {b : Nat} {vk vb vn vt : Value} {s m1 m2 m3 : Nat} {N : List Nd} {T : List Te} {w : World} (hx : IxC w b vk vb vn vt s m1 m2 m3) (hN : IsN w vn N) (hT : IsT w vt T) (h60 : N.length ≤ 60) (h120 : T.length ≤ 120) (h8 : ∀ n ∈ N, n.rc.length ≤ 1000) :
    Calls Tryz.prog 8 #[.pointer (some ⟨b, 0, none⟩)] w fun e w' => ∃ un ut M, e = .returned (.agg #[un, ut]) ∧ cN M = cN N ∧ OwnNs w' w.heap.size un M ∧ OwnTs w' w.heap.size ut T ∧ Below w.heap.size w w' := by
  have hb := (Array.getElem?_eq_some_iff.1 hx).1
  obtain ⟨W0, hW0⟩ : ∃ W0, W0 = w.alloc (.cells #[.slice none 0 0, .slice none 0 0] 29) := ⟨_, rfl⟩
  have hB0 : Below w.heap.size w W0 := by rw [hW0]; exact b_alloc (Below.refl _ _) _
  have n0 : W0.heap[w.heap.size]? = some (.cells #[.slice none 0 0, .slice none 0 0] 29 (0, 0)) := by rw [hW0]; exact heap_alloc_new w _
  have hx0 := hx.on hB0
  have x3 : W0.cell? ⟨b, 3, none⟩ = some vn := cell_at hx0 rfl
  have x4 : W0.cell? ⟨b, 4, none⟩ = some vt := cell_at hx0 rfl
  have cc := copied_any (hN.on hB0) (hT.on hB0) h60 h120 h8
  have hne : ¬ b = w.heap.size := by omega
  obtain ⟨an, cn, rfl, _⟩ := hN
  obtain ⟨at', ct, rfl, _⟩ := hT
  have HH : Hid (Below w.heap.size w W0 ∧ W0.heap[w.heap.size]? = some (.cells #[.slice none 0 0, .slice none 0 0] 29 (0, 0))) := ⟨hB0, n0⟩
  clear hB0 n0 hx0 hx
  go_enter Tryz.func8, Tryz.ntmps8
  go_upto_region 1 with fail
  rw [← hW0]
  clear hW0
  go_wp2_with (first | (go_at_call 24; refine cc.mono ?_; rintro e W1 ⟨un, ut, M, rfl, hc, o1, o2, hB1⟩; refine Hid.out ?_))
  refine Lib.hid ?_
  obtain ⟨a1, p1, rfl⟩ := own_slice o1.1
  obtain ⟨a2, p2, rfl⟩ := own_slice o2
  have hr1 := (hB1.block _ (Array.getElem?_eq_some_iff.1 HH.out.2).1).trans HH.out.2
  have HF : Hid (cN M = cN N ∧ OwnNs W1 W0.heap.size (.slice a1 M.length p1) M ∧ OwnTs W1 W0.heap.size (.slice a2 T.length p2) T ∧ Below w.heap.size w W1 ∧ Ty W1 w.heap.size 29) := ⟨hc, o1, o2, on1K HH.out.1 hB1 (Nat.le_refl _), _, hr1⟩
  have r0 : W1.cell? ⟨w.heap.size, 0, none⟩ = some (.slice none 0 0) := cell_at hr1 rfl
  have r1 : W1.cell? ⟨w.heap.size, 1, none⟩ = some (.slice none 0 0) := cell_at hr1 rfl
  have s0 : W1.frozen? ⟨w.heap.size, 0, none⟩ = false := frz_at hr1
  have s1 : W1.frozen? ⟨w.heap.size, 1, none⟩ = false := frz_at hr1
  have t1 : ((W1.setCell ⟨w.heap.size, 0, none⟩ (.slice a1 M.length p1)).setCell ⟨w.heap.size, 1, none⟩ (.slice a2 T.length p2)).heap[w.heap.size]? = some (.cells #[.slice a1 M.length p1, .slice a2 T.length p2] 29 (0, 0)) := heap_setCell_same _ _ 1 _ 29 _ (heap_setCell_same W1 _ 0 _ 29 _ hr1)
  have HT : Hid (((W1.setCell ⟨w.heap.size, 0, none⟩ (.slice a1 M.length p1)).setCell ⟨w.heap.size, 1, none⟩ (.slice a2 T.length p2)).cell? ⟨w.heap.size, 0, none⟩ = some (.slice a1 M.length p1) ∧ ((W1.setCell ⟨w.heap.size, 0, none⟩ (.slice a1 M.length p1)).setCell ⟨w.heap.size, 1, none⟩ (.slice a2 T.length p2)).cell? ⟨w.heap.size, 1, none⟩ = some (.slice a2 T.length p2)) := ⟨cell_at t1 rfl, cell_at t1 rfl⟩
  clear hc o1 o2 hB1 hr1 t1 x3 x4
  go_wp2
  obtain ⟨f1, f2, f3, f4, f5⟩ := HF.out
  obtain ⟨t0, t1⟩ := HT.out
  have hs0' : w.heap.size ≤ W0.heap.size := HH.out.1.size
  refine bodyPost_ret (v := .agg #[.slice a1 M.length p1, .slice a2 T.length p2]) ?_ rfl ⟨_, _, M, rfl, f1, ?_, ?_, ?_⟩
  · simp [results, Tryz.results8, go_sem, t0, t1]
  · exact ⟨own_base (own_kt f2.1 (((Kt.refl _ _).ty f5 (by decide) _ _).ty (f5.set _ _ _) (by decide) _ _)) hs0', fun n hn => own_base ((f2.2 n hn).kt (((Kt.refl _ _).ty f5 (by decide) _ _).ty (f5.set _ _ _) (by decide) _ _)) hs0'⟩
  · exact own_base (f3.kt (((Kt.refl _ _).ty f5 (by decide) _ _).ty (f5.set _ _ _) (by decide) _ _)) hs0'
  · exact (f4.setCell (by show _ ≤ w.heap.size; omega) _).setCell (by show _ ≤ w.heap.size; omega) _
end Go.Proofs.YtjnjbajnmclmjaaGreatDoor
