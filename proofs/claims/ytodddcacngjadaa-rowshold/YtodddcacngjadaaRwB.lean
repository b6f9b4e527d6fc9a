/-
  Records that have a property, and those that have it not: the walk of parted.
-/
import Derived.Test.YtodddcacngjadaaRwA
import Derived.Laws.OwnMore
import Derived.Deep.RegionLaw
import Derived.Deep.RegionHeld3
namespace Go.Proofs.Ytodddcacngjadaa
open Go.RowKit
set_option linter.unusedVariables false
set_option linter.unusedSimpArgs false

/-- A record that has the value. -/
structure Hv where
  r : Rv
  t : Int
  n : Int
  s : ByteArray
def Hv.cells (h : Hv) : List Value := [h.r.rv, .int .i64 h.t, .int .i64 h.n, .string h.s]
def cellsH (L : List Hv) : List Value := L.flatMap Hv.cells
def cellsR (L : List Rv) : List Value := L.map Rv.rv
theorem cellsH_snoc (L : List Hv) (h : Hv) : cellsH (L ++ [h]) = cellsH L ++ h.cells := by simp [cellsH]
theorem cellsR_snoc (L : List Rv) (h : Rv) : cellsR (L ++ [h]) = cellsR L ++ [h.rv] := by simp [cellsR]
/-- The property of a name. -/
def prOf (nm : List UInt8) (L : List Pr) : Option Pr := L.find? fun p => p.nm.toList == nm
def hvOf (nm : List UInt8) (x : Rv) : Option Hv := (prOf nm x.rc).map fun q => ⟨x, q.t, q.n, q.s⟩
def haveL (nm : List UInt8) (L : List Rv) : List Hv := L.filterMap (hvOf nm)
def lackL (nm : List UInt8) (L : List Rv) : List Rv := L.filter fun x => (prOf nm x.rc).isNone
theorem idxP_find (nm : List UInt8) : ∀ (L : List Pr) (k : Nat), (prOf nm L = none ∧ idxP nm L k = -1) ∨ ∃ j q, prOf nm L = some q ∧ idxP nm L k = ((k + j : Nat) : Int) ∧ L[j]? = some q
  | [], k => .inl ⟨rfl, rfl⟩
  | p :: r, k => by
    by_cases h : (p.nm.toList == nm) = true
    · exact .inr ⟨0, p, by unfold prOf; rw [List.find?_cons_of_pos (by exact h)], by unfold idxP; rw [if_pos h]; simp, rfl⟩
    · have e : idxP nm (p :: r) k = idxP nm r (k + 1) := by
        conv => lhs; unfold idxP
        rw [if_neg h]
      have e2 : prOf nm (p :: r) = prOf nm r := by unfold prOf; rw [List.find?_cons_of_neg (by exact h)]
      rw [e, e2]
      rcases idxP_find nm r (k + 1) with ⟨h1, h2⟩ | ⟨j, q, h1, h2, h3⟩
      · exact .inl ⟨h1, h2⟩
      · exact .inr ⟨j + 1, q, h1, by rw [h2]; congr 1; omega, by simpa using h3⟩
/-- What Get gives of a record that is right. -/
theorem get_ok {L : List Pr} (nm : List UInt8) (h : rErr L = 0) : (prOf nm L = none ∧ rfErr nm L = 5 ∧ getV nm L = .agg #[.int .i64 0, .int .i64 0, .string ⟨#[]⟩]) ∨ ∃ q, prOf nm L = some q ∧ rfErr nm L = 0 ∧ getV nm L = .agg #[.int .i64 q.t, .int .i64 q.n, .string q.s] := by
  rcases idxP_find nm L 0 with ⟨h1, h2⟩ | ⟨j, q, h1, h2, h3⟩
  · have e5 : rfErr nm L = 5 := by unfold rfErr; rw [if_pos h, if_pos h2]
    exact .inl ⟨h1, e5, by unfold getV; rw [if_neg (by rw [e5]; decide)]⟩
  · have h2' : idxP nm L 0 = (j : Int) := by simpa using h2
    have e5 : rfErr nm L = 0 := by unfold rfErr; rw [if_pos h, if_neg (by rw [h2']; omega)]
    refine .inr ⟨q, h1, e5, ?_⟩
    unfold getV; rw [if_pos e5, h2']; simp [h3]
theorem have_some {nm : List UInt8} {L : List Rv} {x : Rv} {q : Pr} (h : prOf nm x.rc = some q) : haveL nm (L ++ [x]) = haveL nm L ++ [⟨x, q.t, q.n, q.s⟩] ∧ lackL nm (L ++ [x]) = lackL nm L := by
  refine ⟨?_, ?_⟩
  · unfold haveL; rw [List.filterMap_append]; simp [hvOf, h]
  · unfold lackL; rw [List.filter_append]; simp [h]
theorem have_none {nm : List UInt8} {L : List Rv} {x : Rv} (h : prOf nm x.rc = none) : haveL nm (L ++ [x]) = haveL nm L ∧ lackL nm (L ++ [x]) = lackL nm L ++ [x] := by
  refine ⟨?_, ?_⟩
  · unfold haveL; rw [List.filterMap_append]; simp [hvOf, h]
  · unfold lackL; rw [List.filter_append]; simp [h]
theorem have_len (nm : List UInt8) (L : List Rv) : (haveL nm L).length ≤ L.length := List.length_filterMap_le _ _
theorem lack_len (nm : List UInt8) (L : List Rv) : (lackL nm L).length ≤ L.length := List.length_filter_le _ _

theorem info_partsR {P : Program} {t : TypeId} {z : Option Value} {s b : Nat} (h : (P.info? t).map (fun i => (i.zero, i.size, i.bytes)) = some (z, s, b)) :
    ∃ i, P.info? t = some i ∧ i.zero = z ∧ i.size = s ∧ i.bytes = b := by
  obtain ⟨i, hi, he⟩ := Option.map_eq_some_iff.1 h
  simp only [Prod.mk.injEq] at he
  exact ⟨i, hi, he.1, he.2.1, he.2.2⟩
theorem infoH : (Try.prog.info? 46).map (fun i => (i.zero, i.size, i.bytes)) = some (some (.agg #[.slice none 0 0, .int .i64 0, .int .i64 0, .string ⟨#[]⟩]), 4, 56) := by kernel_rfl
theorem infoRc : (Try.prog.info? 28).map (fun i => (i.zero, i.size, i.bytes)) = some (some (.slice none 0 0), 1, 24) := by kernel_rfl

/-- Both lists, as they stand. -/
def PaR (w : World) (nm : List UInt8) (L : List Rv) (vh vl : Value) (wr : World) : Prop :=
  wr.ownsRow w.heap.size 46 4 vh (haveL nm L).length (cellsH (haveL nm L)) ∧ wr.ownsRow w.heap.size 28 1 vl (lackL nm L).length (cellsR (lackL nm L)) ∧ Below w.heap.size w wr
theorem PaR.on {w wr W : World} {nm : List UInt8} {L : List Rv} {vh vl : Value} (h : PaR w nm L vh vl wr) (hB : Below wr.heap.size wr W) : PaR w nm L vh vl W :=
  ⟨own_kt h.1 (Kt.of_below hB), own_kt h.2.1 (Kt.of_below hB), on1R h.2.2 hB⟩
def PaI (w : World) (nm : List UInt8) (L : List Rv) (vh vl i : Value) (wr : World) : Prop := ∃ k : Nat, k ≤ L.length ∧ i = .int .i64 (k : Int) ∧ PaR w nm (L.take k) vh vl wr
/-- What parted gives. -/
def PaP (w : World) (nm : List UInt8) (L : List Rv) (e : Ending) (w' : World) : Prop := ∃ vh vl, e = .returned (.tuple #[vh, vl]) ∧ PaR w nm L vh vl w'
theorem take_moreR {L : List Rv} {k : Nat} {x : Rv} (h : L[k]? = some x) : L.take (k + 1) = L.take k ++ [x] := by
  obtain ⟨hk, rfl⟩ := List.getElem?_eq_some_iff.1 h
  exact List.take_succ_eq_append_getElem hk
theorem b_allocR {w wr : World} (h : Below w.heap.size w wr) (o : Obj) : Below w.heap.size w (wr.alloc o) := h.alloc h.size _

set_option maxHeartbeats 4000000 in
set_option maxRecDepth 100000 in
theorem parted_any {v : Value} {L : List Rv} {w : World} (h : IsRs w v L) (hz : SzRs L) (hl : L.length ≤ 200) (hr : rsE L = 0) (s : ByteArray) :
    Calls Try.prog 10 #[v, .string s] w (PaP w s.toList L) := by
  obtain ⟨i0, hi0, hz0, hz1, hz2⟩ := info_partsR infoH
  obtain ⟨i1, ji0, jz0, jz1, jz2⟩ := info_partsR infoRc
  obtain ⟨av, cv, rfl, hcells⟩ := h
  have HZ := Lib.hid hz
  have HC := Lib.hid hcells
  have HR := Lib.hid (rsE_all hr)
  clear hz hcells hr
  go_enter Try.func10, Try.ntmps10
  go_wp2
  go_loopw [4, 5, 12] (fun vh vl i wr => PaI w s.toList L vh vl i wr) (fun _ _ i _ => L.length - (intOf i).toNat)
  case atStart => exact ⟨0, Nat.zero_le _, rfl, World.ownsRow_nil _ _ _ _, World.ownsRow_nil _ _ _ _, Below.refl _ _⟩
  case round =>
    obtain ⟨k, hk, rfl, hP⟩ := hrel
    have HP := Lib.hid hP
    by_cases hlt : k < L.length
    · obtain ⟨x, hx⟩ : ∃ x, L[k]? = some x := ⟨_, List.getElem?_eq_getElem hlt⟩
      obtain ⟨b, off, rfl, hbl, hL⟩ := HC.out.resolve_left (fun e => by rw [e] at hlt; simp at hlt)
      obtain ⟨l0, hR⟩ := (hL.on hbl hP.2.2) k x hx
      have hxz := HZ.out x (List.mem_of_getElem? hx)
      have hx0 := HR.out x (List.mem_of_getElem? hx)
      have cG := get_any hR hxz.1 hxz.2 s
      have HT := Lib.hid (take_moreR hx)
      have hnl : (haveL s.toList (L.take k)).length ≤ 200 := Nat.le_trans (have_len _ _) (by simp; omega)
      have hml : (lackL s.toList (L.take k)).length ≤ 200 := Nat.le_trans (lack_len _ _) (by simp; omega)
      have HM : Hid ((haveL s.toList (L.take k)).length + 1 ≤ maxLen ∧ ((haveL s.toList (L.take k)).length + 1) * 56 ≤ 140737488355328 ∧ (lackL s.toList (L.take k)).length + 1 ≤ maxLen ∧ ((lackL s.toList (L.take k)).length + 1) * 24 ≤ 140737488355328) := by
        unfold maxLen; exact ⟨by omega, by omega, by omega, by omega⟩
      obtain ⟨ra, rn, hrv⟩ : ∃ ra rn, x.rv = .slice ra x.rc.length rn := by obtain ⟨a, c, e, _⟩ := hR; exact ⟨a, c, e⟩
      obtain ⟨xv, xc⟩ := x
      simp only at hrv l0 hR hxz hx0 cG
      subst hrv
      clear hL hR hxz hP hnl hml
      rcases get_ok s.toList hx0 with ⟨g1, g2, g3⟩ | ⟨q, g1, g2, g3⟩
      · rw [g2, g3, errV_5R] at cG
        have HN := Lib.hid (have_none (nm := s.toList) (L := L.take k) (x := ⟨.slice ra xc.length rn, xc⟩) g1)
        clear g1 g2 g3 hx hx0
        go_wp2_with (first | (go_at_call 5; refine cG.mono ?_; rintro e W1 ⟨rfl, hB1⟩; have HP1 := Lib.hid (HP.out.on hB1); clear hB1) | (at_builtin; refine wpList_append_own _ rfl (.tmp 24) (.tmp 26) 22 rfl w.heap.size 28 i1 _ 1 24 Try.underlying22 ji0 jz0 jz1 jz2 rfl (by decide) u5 _ _ rfl ((HP1.out.2.1.alloc _).alloc _) ⟨W1.heap.size + 1, 0, none⟩ 1 1 [.slice ra xc.length rn] rfl rfl (by have := new_at (W1.alloc (.cells #[.int .i64 0, .int .i64 0, .string ⟨#[]⟩] 24)) [.slice ra xc.length rn] 28; rw [World.size_alloc] at this; exact this) (by simp [Value.oneCell']) HM.out.2.2.1 HM.out.2.2.2 (by have := HP1.out.2.2.size; simp; omega) ?_; intro v1 w1 hown hgrow _))
        have R : PaI w s.toList L u4 v1 (.int .i64 ((k : Int) + 1)) w1 := by
          refine ⟨k + 1, by omega, by go_num, ?_⟩
          rw [HT.out]
          unfold PaR
          rw [HN.out.1, HN.out.2, cellsR_snoc, List.length_append]
          exact ⟨own_kt ((HP1.out.1.alloc _).alloc _) (Kt.of_own ((HP1.out.2.1.alloc _).alloc _) (by decide) hgrow), hown, below_grown (b_allocR (b_allocR HP1.out.2.2 _) _) hgrow (b_allocR (b_allocR HP1.out.2.2 _) _).size (fun j hj => (HP1.out.2.1.lt j hj).1)⟩
        go_roundw
        case rel => exact R
        case measure => simp [intOf]; omega
      · rw [g2, g3, errV_0] at cG
        have HN := Lib.hid (have_some (nm := s.toList) (L := L.take k) (x := ⟨.slice ra xc.length rn, xc⟩) g1)
        clear g1 g2 g3 hx hx0
        go_wp2_with (first | (go_at_call 5; refine cG.mono ?_; rintro e W1 ⟨rfl, hB1⟩; have HP1 := Lib.hid (HP.out.on hB1); clear hB1) | (at_builtin; refine wpList_append_own _ rfl (.tmp 28) (.tmp 32) 41 rfl w.heap.size 46 i0 _ 4 56 Try.underlying41 hi0 hz0 hz1 hz2 rfl (by decide) u4 _ _ rfl ((HP1.out.1.alloc _).alloc _) ⟨W1.heap.size + 1, 0, none⟩ 1 1 [.slice ra xc.length rn, .int .i64 q.t, .int .i64 q.n, .string q.s] rfl rfl (by have := new_at (W1.alloc (.cells #[.int .i64 q.t, .int .i64 q.n, .string q.s] 24)) [.slice ra xc.length rn, .int .i64 q.t, .int .i64 q.n, .string q.s] 46; rw [World.size_alloc] at this; exact this) (by simp [Value.oneCell']) HM.out.1 HM.out.2.1 (by have := HP1.out.2.2.size; simp; omega) ?_; intro v1 w1 hown hgrow _))
        have R : PaI w s.toList L v1 u5 (.int .i64 ((k : Int) + 1)) w1 := by
          refine ⟨k + 1, by omega, by go_num, ?_⟩
          rw [HT.out]
          unfold PaR
          rw [HN.out.1, HN.out.2, cellsH_snoc, List.length_append]
          exact ⟨hown, own_kt ((HP1.out.2.1.alloc _).alloc _) (Kt.of_own ((HP1.out.1.alloc _).alloc _) (by decide) hgrow), below_grown (b_allocR (b_allocR HP1.out.2.2 _) _) hgrow (b_allocR (b_allocR HP1.out.2.2 _) _).size (fun j hj => (HP1.out.1.lt j hj).1)⟩
        go_roundw
        case rel => exact R
        case measure => simp [intOf]; omega
    · obtain rfl : k = L.length := by omega
      have hF := HP.out
      rw [List.take_length] at hF
      have HF := Lib.hid hF
      clear hF hP
      go_wp2
      go_ret2
      exact ⟨_, _, rfl, HF.out⟩
end Go.Proofs.Ytodddcacngjadaa
