/-
  The walks of Out and In.
-/
import Derived.Test.YtikjmingkadjcaaGreatDoorA33
import Derived.Test.YtikjmingkadjcaaGreatDoorA34
import Derived.Laws.AppendOwnNone
import Derived.Lib.Hide
import Derived.Shelf.SlIterI.Nil
import Derived.Shelf.SortM.Plain
import Derived.Shelf.SortM.SortNone
import Derived.Ground.GgzProg
import Derived.Ground.SlgmProg
import Derived.Maps.OwnSet
namespace Go.Proofs.YtikjmingkadjcaaGreatDoor
open Go.RowKit
set_option linter.unusedVariables false
set_option linter.unusedSimpArgs false

def Te.hit (bd : ByteArray) (t : Te) : Bool := t.bd.toList == bd.toList
def outs (T : List Te) (bd : ByteArray) (a : Int) : List Int := (T.filter fun t => t.hit bd && t.fr == a).map (·.tt)
theorem cellsI_app (L M : List Int) : cellsI (L ++ M) = cellsI L ++ cellsI M := by simp [cellsI]
theorem infoI : (Tryz.prog.info? 3).map (fun i => (i.zero, i.size, i.bytes)) = some (some (.int .i64 0), 1, 8) := by kernel_rfl
theorem takeT {T : List Te} {k : Nat} {t : Te} (h : T[k]? = some t) : T.take (k + 1) = T.take k ++ [t] := by
  obtain ⟨hk, rfl⟩ := List.getElem?_eq_some_iff.1 h
  rw [List.take_succ_eq_append_getElem hk]
def OAt (w : World) (n : Nat) (L : Nat → List Int) (v i : Value) (wr : World) : Prop :=
  ∃ k : Nat, k ≤ n ∧ i = .int .i64 k ∧ wr.ownsRow w.heap.size 3 1 v (L k).length (cellsI (L k)) ∧ Below w.heap.size w wr
end Go.Proofs.YtikjmingkadjcaaGreatDoor

/-
  Lists of integers as they lie there; Out, and kinref2.In.
-/
namespace Go.Proofs.YtikjmingkadjcaaGreatDoor
open Go.RowKit
set_option linter.unusedVariables false
set_option linter.unusedSimpArgs false

def IsI (w : World) (v : Value) (L : List Int) : Prop :=
  (v = .slice none 0 0 ∧ L = []) ∨ ∃ b cap, v = .slice (some ⟨b, 0, none⟩) L.length cap ∧ L.length ≤ cap ∧ b < w.heap.size ∧ ∀ k x, L[k]? = some x → w.cell? ⟨b, k, none⟩ = some (.int .i64 x)
theorem IsI.on {w w' : World} {v : Value} {L : List Int} (h : IsI w v L) (hB : Below w.heap.size w w') : IsI w' v L := by
  rcases h with h | ⟨b, cap, rfl, hc, hb, hl⟩
  · exact .inl h
  · exact .inr ⟨b, cap, rfl, hc, Nat.lt_of_lt_of_le hb hB.size, fun k x hx => (hB.cell hb).trans (hl k x hx)⟩
theorem own_isI {w : World} {base : Nat} {v : Value} {M : List Int} (h : w.ownsRow base 3 1 v M.length (cellsI M)) : IsI w v M := by
  have hc : ∀ g, v.ownBlock = some g → ∀ j u, (cellsI M)[j]? = some u → w.cell? ((⟨g, 0, none⟩ : Addr).add j) = some u := fun g hg => h.cells hg
  rcases h.2 with ⟨rfl, h0⟩ | ⟨g, cap, cur, rfl, hb, hg, hle, hcm, hcs, ht⟩
  · exact .inl ⟨rfl, List.eq_nil_of_length_eq_zero h0⟩
  · refine .inr ⟨g, cap, rfl, hle, (Array.getElem?_eq_some_iff.1 hg).1, fun k p hp => ?_⟩
    have d0 := hc g rfl k (.int .i64 p) (by simp [cellsI, hp])
    rw [Addr.add_lit, Nat.zero_add] at d0
    exact d0
theorem IsI.sl {w : World} {v : Value} {L : List Int} (h : IsI w v L) : ∃ ao c, v = .slice ao L.length c := by
  rcases h with ⟨rfl, rfl⟩ | ⟨b, cap, rfl, _⟩
  · exact ⟨_, _, rfl⟩
  · exact ⟨_, _, rfl⟩

set_option maxHeartbeats 1000000 in
theorem rin_nil (n : Int) (w : World) : Calls Tryz.prog 11 #[.slice none 0 0, .int .i64 n] w fun e w' => e = .returned (.bool false) ∧ w' = w := by
  go_enter Tryz.func11, Tryz.ntmps11
  go_wp2
  go_loopw [5] (fun i wr => i = .int .i64 0 ∧ wr = w) (fun i _ => 0)
  case atStart => exact ⟨rfl, rfl⟩
  case round =>
    obtain ⟨rfl, rfl⟩ := hrel
    go_wp2
    go_ret
    exact ⟨rfl, rfl⟩
def RInAt (L : List Int) (n : Int) (w : World) (i : Value) (wr : World) : Prop := ∃ k : Nat, k ≤ L.length ∧ i = .int .i64 k ∧ L.contains n = (L.drop k).contains n ∧ wr = w
set_option maxHeartbeats 1000000 in
set_option maxRecDepth 100000 in
theorem rin_some (L : List Int) (b cap : Nat) (n : Int) (w : World) (hm : L.length ≤ 5000) (hl : ∀ k x, L[k]? = some x → w.cell? ⟨b, k, none⟩ = some (.int .i64 x)) :
    Calls Tryz.prog 11 #[.slice (some ⟨b, 0, none⟩) L.length cap, .int .i64 n] w fun e w' => e = .returned (.bool (L.contains n)) ∧ w' = w := by
  obtain ⟨r, hr⟩ : ∃ r, L.contains n = r := ⟨_, rfl⟩
  have HR : Hid (L.contains n = r) := hr
  rw [hr]
  clear hr
  have HL : Hid (∀ k x, L[k]? = some x → w.cell? ⟨b, k, none⟩ = some (.int .i64 x)) := hl
  clear hl
  go_enter Tryz.func11, Tryz.ntmps11
  go_wp2
  go_loopw [5] (fun i wr => RInAt L n w i wr) (fun i _ => L.length - (intOf i).toNat)
  case atStart => exact ⟨0, Nat.zero_le _, rfl, rfl, rfl⟩
  case round =>
    obtain ⟨k, hk, rfl, hx, rfl⟩ := hrel
    have HX : Hid (L.contains n = (L.drop k).contains n) := hx
    clear hx
    by_cases hlt : k < L.length
    · obtain ⟨x, hx⟩ : ∃ x, L[k]? = some x := ⟨L[k], by simp [hlt]⟩
      have d0 := HL.out k x hx
      have HD : Hid (L.drop k = x :: L.drop (k + 1)) := dropN hx
      clear hx
      by_cases he : x = n
      · have H : Hid (r = true) := by
          show _ = _
          rw [← HR.out, HX.out, HD.out]; simp [he]
        have hb' : (x == n) = true := by simpa using he
        clear HX HD
        go_wp2
        go_ret
        exact ⟨ret_bool H.out.symm, rfl⟩
      · have H : Hid (RInAt L n wr (.int .i64 ((k + 1 : Nat) : Int)) wr) := by
          refine ⟨k + 1, by omega, rfl, ?_, rfl⟩
          rw [HX.out, HD.out, List.contains_cons]
          have : (n == x) = false := by simpa using fun h => he h.symm
          rw [this, Bool.false_or]
        have hb' : (x == n) = false := by simpa using he
        clear HX HD
        go_wp2
        refine ⟨?_, ?_⟩
        · first | exact H.out | ((repeat apply Exists.intro); refine ⟨?_, rfl⟩; exact H.out)
        · simp [intOf]
          try omega
    · have hd : L.drop k = [] := List.drop_eq_nil_of_le (by omega)
      have H : Hid (r = false) := by
        show _ = _
        rw [← HR.out, HX.out, hd]; rfl
      clear HX hd
      go_wp2
      go_ret
      exact ⟨ret_bool H.out.symm, rfl⟩
theorem rin_any {v : Value} {L : List Int} {w : World} (h : IsI w v L) (hm : L.length ≤ 5000) (n : Int) : Calls Tryz.prog 11 #[v, .int .i64 n] w fun e w' => e = .returned (.bool (L.contains n)) ∧ w' = w := by
  rcases h with ⟨rfl, rfl⟩ | ⟨b, cap, rfl, _, _, hl⟩
  · exact rin_nil n w
  · exact rin_some L b cap n w hm hl
end Go.Proofs.YtikjmingkadjcaaGreatDoor

/-
  The walk of guard.otherEnds.
-/
namespace Go.Proofs.YtikjmingkadjcaaGreatDoor
open Go.RowKit
set_option linter.unusedVariables false
set_option linter.unusedSimpArgs false

theorem ends_take {T : List Te} {k : Nat} {t : Te} (h : T[k]? = some t) (id : Int) : endsOf (T.take (k + 1)) id = endsOf (T.take k) id ++ (oth id t).toList := by
  rw [takeT h]; unfold endsOf; rw [List.filterMap_append]
  cases e : oth id t <;> simp [e]
theorem ends_le (T : List Te) (id : Int) : (endsOf T id).length ≤ T.length := List.length_filterMap_le _ _
set_option maxHeartbeats 2000000 in
set_option maxRecDepth 100000 in
theorem oends_any {vt : Value} {T : List Te} {w : World} (hT : IsT w vt T) (hT0 : T.length ≤ 120) (id : Int) :
    Calls Tryz.prog 42 #[vt, .int .i64 id] w fun e w' => ∃ v, e = .returned v ∧ w'.ownsRow w.heap.size 3 1 v (endsOf T id).length (cellsI (endsOf T id)) ∧ Below w.heap.size w w' := by
  obtain ⟨i0, hi0, hz0, hz1, hz2⟩ := info_parts infoI
  obtain ⟨am, cm, rfl, hcm, hm⟩ := hT
  have HM : Hid (T = [] ∨ ∃ b off, am = some ⟨b, off, none⟩ ∧ b < w.heap.size ∧ LiesT w b off T) := hm
  clear hm
  go_enter Tryz.func42, Tryz.ntmps42
  go_wp2
  go_loopw [5, 10] (fun v i wr => OAt w T.length (fun k => endsOf (T.take k) id) v i wr) (fun _ i _ => T.length - (intOf i).toNat)
  case atStart => exact ⟨0, Nat.zero_le _, rfl, World.ownsRow_nil _ _ _ _, Below.refl _ _⟩
  case round =>
    obtain ⟨k, hk, rfl, ho, hB⟩ := hrel
    by_cases hlt : k < T.length
    · obtain ⟨t, ht⟩ : ∃ t, T[k]? = some t := ⟨T[k], by simp [hlt]⟩
      rcases HM.out with rfl | ⟨b, off, rfl, hb, hL⟩
      · exact absurd hlt (by simp)
      obtain ⟨c0, c1, c2⟩ := hL k t ht
      have d0 := (hB.cell (p := ⟨b, off + k * 3, none⟩) hb).trans c0
      have d1 := (hB.cell (p := ⟨b, off + k * 3 + 1, none⟩) hb).trans c1
      have d2 := (hB.cell (p := ⟨b, off + k * 3 + 2, none⟩) hb).trans c2
      have hbr : b < wr.heap.size := Nat.lt_of_lt_of_le hb hB.size
      have hbn : ¬ b = wr.heap.size := by omega
      have HE0 := ends_take ht id
      clear c0 c1 c2 hL ht
      obtain ⟨tb, tf, tt⟩ := t
      simp only at d0 d1 d2
      have HR : Hid (Below w.heap.size w (wr.alloc (.cells #[.string tb, .int .i64 tf, .int .i64 tt] 52)) ∧ (wr.alloc (.cells #[.string tb, .int .i64 tf, .int .i64 tt] 52)).ownsRow w.heap.size 3 1 u5 (endsOf (T.take k) id).length (cellsI (endsOf (T.take k) id))) := ⟨b_alloc hB _, ho.alloc _⟩
      have hle : (endsOf (T.take k) id).length ≤ k := Nat.le_trans (ends_le _ _) (List.length_take_le _ _)
      have HL : Hid ((endsOf (T.take k) id).length + 1 ≤ maxLen ∧ ((endsOf (T.take k) id).length + 1) * 8 ≤ 140737488355328) := by
        unfold maxLen; exact ⟨by omega, by omega⟩
      by_cases h1 : tf = id
      · have HE : Hid (endsOf (T.take (k + 1)) id = endsOf (T.take k) id ++ [tt]) := by show _ = _; rw [HE0]; simp [oth, h1]
        have h3 : (tf == id) = true := by simpa using h1
        have HO : Hid (((wr.alloc (.cells #[.string tb, .int .i64 tf, .int .i64 tt] 52)).alloc (.cells #[.int .i64 tt] 3)).ownsRow w.heap.size 3 1 u5 (endsOf (T.take k) id).length (cellsI (endsOf (T.take k) id)) ∧ Below w.heap.size w ((wr.alloc (.cells #[.string tb, .int .i64 tf, .int .i64 tt] 52)).alloc (.cells #[.int .i64 tt] 3))) := ⟨HR.out.2.alloc _, b_alloc HR.out.1 _⟩
        clear hle ho hB HR h1 HE0
        go_wp2_with (at_builtin; refine wpList_append_own _ rfl (.tmp 19) (.tmp 22) 57 rfl w.heap.size 3 i0 _ 1 8 Tryz.underlying57 hi0 hz0 hz1 hz2 rfl (by decide) u5 (endsOf (T.take k) id).length (cellsI (endsOf (T.take k) id)) rfl HO.out.1 ⟨wr.heap.size + 1, 0, none⟩ 1 1 [.int .i64 tt] (by simp [Act.eval]) rfl (by have := new_at (wr.alloc (.cells #[.string tb, .int .i64 tf, .int .i64 tt] 52)) [.int .i64 tt] 3; simpa using this) (by simp [Value.oneCell']) HL.out.1 HL.out.2 HO.out.2.size ?_; intro v1 w1 hown1 hgrow1 _; refine Hid.out ?_)
        refine Lib.hid ?_
        have HRR : Hid (OAt w T.length (fun k => endsOf (T.take k) id) v1 (.int .i64 ((k + 1 : Nat) : Int)) w1) := by
          refine ⟨k + 1, by omega, rfl, ?_, HO.out.2.grown hgrow1 HO.out.2.size (fun k hk => (HO.out.1.lt k hk).1)⟩
          simp only
          rw [HE.out, List.length_append, cellsI_app]
          exact hown1
        clear hown1
        go_wp2
        refine ⟨?_, ?_⟩
        · first | exact HRR.out | ((repeat apply Exists.intro); refine ⟨?_, rfl⟩; exact HRR.out)
        · simp [intOf]
          try omega
      · have h3 : (tf == id) = false := by simpa using h1
        by_cases h2 : tt = id
        · have HE : Hid (endsOf (T.take (k + 1)) id = endsOf (T.take k) id ++ [tf]) := by show _ = _; rw [HE0]; simp [oth, h1, h2]
          have h4 : (tt == id) = true := by simpa using h2
          have HO : Hid (((wr.alloc (.cells #[.string tb, .int .i64 tf, .int .i64 tt] 52)).alloc (.cells #[.int .i64 tf] 3)).ownsRow w.heap.size 3 1 u5 (endsOf (T.take k) id).length (cellsI (endsOf (T.take k) id)) ∧ Below w.heap.size w ((wr.alloc (.cells #[.string tb, .int .i64 tf, .int .i64 tt] 52)).alloc (.cells #[.int .i64 tf] 3))) := ⟨HR.out.2.alloc _, b_alloc HR.out.1 _⟩
          clear hle ho hB HR h1 h2 HE0
          go_wp2_with (at_builtin; refine wpList_append_own _ rfl (.tmp 29) (.tmp 32) 57 rfl w.heap.size 3 i0 _ 1 8 Tryz.underlying57 hi0 hz0 hz1 hz2 rfl (by decide) u5 (endsOf (T.take k) id).length (cellsI (endsOf (T.take k) id)) rfl HO.out.1 ⟨wr.heap.size + 1, 0, none⟩ 1 1 [.int .i64 tf] (by simp [Act.eval]) rfl (by have := new_at (wr.alloc (.cells #[.string tb, .int .i64 tf, .int .i64 tt] 52)) [.int .i64 tf] 3; simpa using this) (by simp [Value.oneCell']) HL.out.1 HL.out.2 HO.out.2.size ?_; intro v1 w1 hown1 hgrow1 _; refine Hid.out ?_)
          refine Lib.hid ?_
          have HRR : Hid (OAt w T.length (fun k => endsOf (T.take k) id) v1 (.int .i64 ((k + 1 : Nat) : Int)) w1) := by
            refine ⟨k + 1, by omega, rfl, ?_, HO.out.2.grown hgrow1 HO.out.2.size (fun k hk => (HO.out.1.lt k hk).1)⟩
            simp only
            rw [HE.out, List.length_append, cellsI_app]
            exact hown1
          clear hown1
          go_wp2
          refine ⟨?_, ?_⟩
          · first | exact HRR.out | ((repeat apply Exists.intro); refine ⟨?_, rfl⟩; exact HRR.out)
          · simp [intOf]
            try omega
        · have HE : Hid (endsOf (T.take (k + 1)) id = endsOf (T.take k) id) := by show _ = _; rw [HE0]; simp [oth, h1, h2]
          have h4 : (tt == id) = false := by simpa using h2
          have HRR : Hid (OAt w T.length (fun k => endsOf (T.take k) id) u5 (.int .i64 ((k + 1 : Nat) : Int)) (wr.alloc (.cells #[.string tb, .int .i64 tf, .int .i64 tt] 52))) := by
            refine ⟨k + 1, by omega, rfl, ?_, HR.out.1⟩
            simp only
            rw [HE.out]
            exact HR.out.2
          clear ho hB HR HE h1 h2 HE0 hle HL
          go_wp2
          refine ⟨?_, ?_⟩
          · first | exact HRR.out | ((repeat apply Exists.intro); refine ⟨?_, rfl⟩; exact HRR.out)
          · simp [intOf]
            try omega
    · have hke : T.take k = T := List.take_of_length_le (by omega)
      simp only at ho
      rw [hke] at ho
      have HO : Hid (wr.ownsRow w.heap.size 3 1 u5 (endsOf T id).length (cellsI (endsOf T id)) ∧ Below w.heap.size w wr) := ⟨ho, hB⟩
      clear ho hB hke
      go_wp2
      go_ret
      exact ⟨_, rfl, HO.out.1, HO.out.2⟩
end Go.Proofs.YtikjmingkadjcaaGreatDoor

/-
  The walk of guard.touchedBy.
-/
namespace Go.Proofs.YtikjmingkadjcaaGreatDoor
open Go.RowKit
set_option linter.unusedVariables false
set_option linter.unusedSimpArgs false

theorem isI_new (W : World) {l : List Int} : IsI (W.alloc (.cells (cellsI l).toArray 3)) (.slice (some ⟨W.heap.size, 0, none⟩) l.length l.length) l := by
  refine .inr ⟨_, _, rfl, Nat.le_refl _, by simp, fun k x hx => ?_⟩
  have := new_at W (cellsI l) 3 k (.int .i64 x) (by simp [cellsI, hx])
  rw [Addr.add_lit, Nat.zero_add] at this
  exact this
abbrev opObj (o : Opx) : Obj := .cells #[.int .i64 o.wh, .int .i64 o.nd.id, .string o.nd.kd, o.nd.rv, .string o.pr.nm, .int .i64 o.pr.t, .int .i64 o.pr.n, .string o.pr.s, .string o.te.bd, .int .i64 o.te.fr, .int .i64 o.te.tt] 54

set_option maxHeartbeats 2000000 in
set_option maxRecDepth 100000 in
theorem tb_two {vt : Value} {o : Opx} {w : World} {a l c} (hR : o.nd.rv = .slice a l c) (ho : o.wh = 5 ∨ o.wh = 6) :
    Calls Tryz.prog 28 #[vt, o.one] w fun e w' => ∃ v, e = .returned v ∧ IsI w' v [o.te.fr, o.te.tt] ∧ Below w.heap.size w w' := by
  obtain ⟨wh, ⟨id, kd, rv, rc⟩, ⟨nm, pt, pn, ps⟩, ⟨bd, fr, tt⟩⟩ := o
  simp only at ho hR ⊢
  subst hR
  have HB : Hid (Below w.heap.size w ((w.alloc (opObj ⟨wh, ⟨id, kd, .slice a l c, rc⟩, ⟨nm, pt, pn, ps⟩, ⟨bd, fr, tt⟩⟩)).alloc (.cells #[.int .i64 fr, .int .i64 tt] 3))) := b_alloc (b_alloc (Below.refl _ _) _) _
  have HI : Hid (IsI ((w.alloc (opObj ⟨wh, ⟨id, kd, .slice a l c, rc⟩, ⟨nm, pt, pn, ps⟩, ⟨bd, fr, tt⟩⟩)).alloc (.cells #[.int .i64 fr, .int .i64 tt] 3)) (.slice (some ⟨w.heap.size + 1, 0, none⟩) 2 2) [fr, tt]) := by
    have := isI_new (w.alloc (opObj ⟨wh, ⟨id, kd, .slice a l c, rc⟩, ⟨nm, pt, pn, ps⟩, ⟨bd, fr, tt⟩⟩)) (l := [fr, tt])
    show IsI _ _ _
    simpa [cellsI] using this
  rcases ho with rfl | rfl
  · go_enter Tryz.func28, Tryz.ntmps28
    go_wp2
    go_ret
    exact ⟨_, rfl, HI.out, HB.out⟩
  · go_enter Tryz.func28, Tryz.ntmps28
    go_wp2
    go_ret
    exact ⟨_, rfl, HI.out, HB.out⟩

set_option maxHeartbeats 2000000 in
set_option maxRecDepth 100000 in
theorem tb_one {vt : Value} {o : Opx} {w : World} {a l c} (hR : o.nd.rv = .slice a l c) (h5 : ¬ o.wh = 5) (h6 : ¬ o.wh = 6) (h2 : ¬ o.wh = 2) :
    Calls Tryz.prog 28 #[vt, o.one] w fun e w' => ∃ v, e = .returned v ∧ IsI w' v [o.nd.id] ∧ Below w.heap.size w w' := by
  obtain ⟨wh, ⟨id, kd, rv, rc⟩, ⟨nm, pt, pn, ps⟩, ⟨bd, fr, tt⟩⟩ := o
  simp only at h5 h6 h2 hR ⊢
  subst hR
  have HB : Hid (Below w.heap.size w ((w.alloc (opObj ⟨wh, ⟨id, kd, .slice a l c, rc⟩, ⟨nm, pt, pn, ps⟩, ⟨bd, fr, tt⟩⟩)).alloc (.cells #[.int .i64 id] 3))) := b_alloc (b_alloc (Below.refl _ _) _) _
  have HI : Hid (IsI ((w.alloc (opObj ⟨wh, ⟨id, kd, .slice a l c, rc⟩, ⟨nm, pt, pn, ps⟩, ⟨bd, fr, tt⟩⟩)).alloc (.cells #[.int .i64 id] 3)) (.slice (some ⟨w.heap.size + 1, 0, none⟩) 1 1) [id]) := by
    have := isI_new (w.alloc (opObj ⟨wh, ⟨id, kd, .slice a l c, rc⟩, ⟨nm, pt, pn, ps⟩, ⟨bd, fr, tt⟩⟩)) (l := [id])
    show IsI _ _ _
    simpa [cellsI] using this
  have e5 : (wh == 5) = false := by simpa using h5
  have e6 : (wh == 6) = false := by simpa using h6
  have e2 : (wh == 2) = false := by simpa using h2
  clear h5 h6 h2
  go_enter Tryz.func28, Tryz.ntmps28
  go_wp2
  go_ret
  exact ⟨_, rfl, HI.out, HB.out⟩

set_option maxHeartbeats 4000000 in
set_option maxRecDepth 100000 in
theorem tb_gone {vt : Value} {T : List Te} {o : Opx} {w : World} {a l c} (hT : IsT w vt T) (hT0 : T.length ≤ 120) (hR : o.nd.rv = .slice a l c) (h2 : o.wh = 2) :
    Calls Tryz.prog 28 #[vt, o.one] w fun e w' => ∃ v, e = .returned v ∧ IsI w' v (endsOf T o.nd.id ++ [o.nd.id]) ∧ Below w.heap.size w w' := by
  obtain ⟨i0, hi0, hz0, hz1, hz2⟩ := info_parts infoI
  obtain ⟨wh, ⟨id, kd, rv, rc⟩, ⟨nm, pt, pn, ps⟩, ⟨bd, fr, tt⟩⟩ := o
  simp only at h2 hR ⊢
  subst hR h2
  obtain ⟨W0, hW0⟩ : ∃ W0, W0 = w.alloc (.cells #[.int .i64 2, .int .i64 id, .string kd, .slice a l c, .string nm, .int .i64 pt, .int .i64 pn, .string ps, .string bd, .int .i64 fr, .int .i64 tt] 54) := ⟨_, rfl⟩
  have n0 : W0.heap[w.heap.size]? = some (.cells #[.int .i64 2, .int .i64 id, .string kd, .slice a l c, .string nm, .int .i64 pt, .int .i64 pn, .string ps, .string bd, .int .i64 fr, .int .i64 tt] 54 (0, 0)) := by rw [hW0]; exact heap_alloc_new w _
  have x0 : W0.cell? ⟨w.heap.size, 0, none⟩ = some (.int .i64 2) := cell_at n0 rfl
  have x1 : W0.cell? ⟨w.heap.size, 1, none⟩ = some (.int .i64 id) := cell_at n0 rfl
  have HB0 : Hid (Below w.heap.size w W0) := by rw [hW0]; exact b_alloc (Below.refl _ _) _
  have hlt0 : w.heap.size < W0.heap.size := by rw [hW0]; simp
  obtain ⟨E, hE⟩ : ∃ E, endsOf T id = E := ⟨_, rfl⟩
  have HL : Hid (E.length + 1 ≤ maxLen ∧ (E.length + 1) * 8 ≤ 140737488355328) := by
    have := ends_le T id
    rw [hE] at this
    unfold maxLen; exact ⟨by omega, by omega⟩
  have cO : Hid (∀ W, Below w.heap.size w W → Calls Tryz.prog 42 #[vt, .int .i64 id] W fun e w' => ∃ v, e = .returned v ∧ w'.ownsRow w.heap.size 3 1 v E.length (cellsI E) ∧ Below w.heap.size w w' ∧ W.heap.size ≤ w'.heap.size ∧ ∀ p u, W.cell? p = some u → w'.cell? p = some u) := fun W hW => by
    refine (oends_any (hT.on hW) hT0 id).mono ?_
    rintro e w' ⟨v, rfl, h1, h2⟩
    rw [hE] at h1
    exact ⟨v, rfl, own_base h1 hW.size, on1 hW h2, h2.size, fun p u hp => (h2.cell (cell_lt hp)).trans hp⟩
  rw [hE]
  have HW0 := Lib.hid hW0
  clear hE hT hW0 n0
  go_enter Tryz.func28, Tryz.ntmps28
  go_wp2
  rw [← HW0.out]
  clear HW0
  go_region_law (first
    | (go_simp; go_at_call 42; refine (cO.out _ (by first | exact b_drew HB0.out | exact b_alloc (b_drew HB0.out) _ | exact b_drew (b_alloc HB0.out _))).mono ?_; rintro e W1 ⟨v1, rfl, ho1, hB1, hs1, hk1⟩; have y1 := hk1 ⟨w.heap.size, 1, none⟩ (.int .i64 id) (by first | exact x1 | exact cell_old x1 _); have HW1 : Hid (W1.ownsRow w.heap.size 3 1 v1 E.length (cellsI E) ∧ Below w.heap.size w W1) := ⟨ho1, hB1⟩; have HK1 := Lib.hid hk1; obtain ⟨a1, c1, hv1⟩ := own_slice ho1; subst hv1; clear ho1 hB1 hk1)
    | (refine step_append_own rfl (.tmp 23) (.tmp 27) 57 rfl w.heap.size 3 i0 _ 1 8 Tryz.underlying57 hi0 hz0 hz1 hz2 rfl (by decide) (.slice a1 E.length c1) E.length (cellsI E) (by simp [Act.eval, Act.put]; done) (by first | exact HW1.out.1 | exact HW1.out.1.alloc _) ⟨W1.heap.size, 0, none⟩ 1 1 [.int .i64 id] (by simp [Act.eval, Act.put]; done) rfl (by have := new_at W1 [.int .i64 id] 3; simpa using this) (by simp [Value.oneCell']) HL.out.1 HL.out.2 (by have := HW1.out.2.size; simp; omega) ?_; intro v2 w2 hown2 hgrow2; have HX : Hid (IsI w2 v2 (E ++ [id]) ∧ Below w.heap.size w w2) := ⟨own_isI (by rw [List.length_append, cellsI_app]; exact hown2), (b_alloc HW1.out.2 _).grown hgrow2 (b_alloc HW1.out.2 _).size (fun k hk => (HW1.out.1.lt k hk).1)⟩; clear hown2 hgrow2)
    | (refine step_append_own rfl (.tmp 23) (.tmp 27) 57 rfl w.heap.size 3 i0 _ 1 8 Tryz.underlying57 hi0 hz0 hz1 hz2 rfl (by decide) (.slice a1 E.length c1) E.length (cellsI E) (by simp [Act.eval, Act.put]; done) HW1.out.1 ⟨W0.heap.size, 0, none⟩ 1 1 [.int .i64 id] (by simp [Act.eval, Act.put]; done) rfl (by intro j u hu; refine HK1.out _ _ ?_; have := new_at W0 [.int .i64 id] 3 j u hu; simpa using this) (by simp [Value.oneCell']) HL.out.1 HL.out.2 HW1.out.2.size ?_; intro v2 w2 hown2 hgrow2; have HX : Hid (IsI w2 v2 (E ++ [id]) ∧ Below w.heap.size w w2) := ⟨own_isI (by rw [List.length_append, cellsI_app]; exact hown2), HW1.out.2.grown hgrow2 HW1.out.2.size (fun k hk => (HW1.out.1.lt k hk).1)⟩; clear hown2 hgrow2))
  all_goals
    go_wp2
    go_ret
    exact ⟨_, rfl, HX.out.1, HX.out.2⟩

theorem tb_any {vt : Value} {T : List Te} {o : Opx} {w : World} (hT : IsT w vt T) (hT0 : T.length ≤ 120) (hR : IsR w o.nd.rv o.nd.rc) :
    Calls Tryz.prog 28 #[vt, o.one] w fun e w' => ∃ v, e = .returned v ∧ IsI w' v (touB T o) ∧ Below w.heap.size w w' := by
  obtain ⟨a, l, c, hv⟩ := hR.sl
  unfold touB
  by_cases h5 : o.wh = 5 ∨ o.wh = 6
  · rw [if_pos h5]; exact tb_two hv h5
  · rw [if_neg h5]
    by_cases h2 : o.wh = 2
    · rw [if_pos h2]; exact tb_gone hT hT0 hv h2
    · rw [if_neg h2]; exact tb_one hv (fun h => h5 (.inl h)) (fun h => h5 (.inr h)) h2
end Go.Proofs.YtikjmingkadjcaaGreatDoor

/-
  slices.Sorted of maps.Keys of a map of integers: the library's contracts laid at this program.
-/
namespace Go.Proofs.YtikjmingkadjcaaGreatDoor
open Go.RowKit Go.Maps Go.Sort Go.Shelf
set_option linter.unusedVariables false
set_option linter.unusedSimpArgs false

shelf_lay_g SlLaysZI.n7 Ggz 7 at Tryz 30 as keysNr
shelf_lay_g SlLaysZI.n6 Ggz 6 at Tryz 29 as sortedNr
shelf_lay_g SlLaysM.n5 Slgm 5 at Tryz 44 as sortNr

theorem sortsNr (m : Nat) : AnyZI.SortsIn Tryz.prog sortedNr_ren Fence.wide m :=
  ⟨fun blk off cap ss W hH hblk hsz => callsIn_wide.2 (AnyM.slices_Sort_int sortNr blk off cap ss W hH hblk hsz),
   fun p cap W => callsIn_wide.2 (AnyM.slices_Sort_int_none sortNr p cap W)⟩

theorem mkeys_any (mb : Option Nat) (W : World) : Calls Tryz.prog 30 #[.map mb] W fun e w' => e = .returned (.func (.func 45) #[] #[.pointer (some ⟨W.heap.size, 0, none⟩)]) ∧ w' = W.alloc (.cells #[.map mb] 81) :=
  (callsIn_wide (n := 5)).1 (AnyZI.keys_in keysNr Fence.wide 5 trivial rfl mb W)

theorem msorted_any {H : Type} (b nn : Nat) (D0 : DataW H) (R : Value → Option (DataW H × List MemPlace)) (w : World) (hown : w.ownsMap Tryz.prog 3 R b nn D0) (hmax : Maps.size D0 ≤ maxLen) (hbytes : Maps.size D0 * 8 ≤ 140737488355328) :
    Calls Tryz.prog 29 #[.func (.func 45) #[] #[.pointer (some ⟨w.heap.size, 0, none⟩)]] (w.alloc (.cells #[.map (some b)] 81)) fun e w' => ∃ (v : Value) (ss : List Int), e = .returned v ∧ ss.Perm (intKeys D0) ∧
      w'.ownsRow w.heap.size 3 1 v ss.length ((ss.mergeSort (fun x y => decide (x ≤ y))).map encZ) ∧ Below w.heap.size w w' := by
  refine (callsIn_wide (n := 5)).1 ?_
  have hbl := hown.lt
  have hseq : SeqGives Fence.wide 2 Tryz.prog 45 #[.pointer (some ⟨w.heap.size, 0, none⟩)] encZ (fun ss => ss.Perm (intKeys D0)) (Maps.size D0) (w.alloc (.cells #[.map (some b)] 81)) :=
    AnyZI.keys_gives (ρ := keysNr_ren) { keysNr with } Fence.wide _ trivial rfl (by omega) w.heap.size b nn D0 _ (by simp) (by simp) (by
      obtain ⟨es, clock, hb, Ft, hs, hD⟩ := hown
      exact ⟨es, clock, (Below.heap_alloc _ _ b hbl).trans hb, Ft, hs, hD⟩)
  have cS := AnyZI.sorted_in sortedNr Fence.wide 5 trivial trivial trivial trivial rfl (by omega) (sortsNr _) (enters_of Tryz.func44 (by kernel_rfl) rfl) 45 #[.pointer (some ⟨w.heap.size, 0, none⟩)] trivial (enters_of Tryz.func45 (by kernel_rfl) rfl) _ _ hmax hbytes _ hseq
  change CallsIn _ _ Tryz.prog 29 _ _ _ at cS
  refine cS.mono ?_
  rintro e w' ⟨v, ss, rfl, hS, hrow, _, hb⟩
  exact ⟨v, ss, rfl, hS, own_base hrow (by simp), ((Below.refl _ w).alloc (Nat.le_refl _) _).trans (hb.mono (by simp))⟩
end Go.Proofs.YtikjmingkadjcaaGreatDoor

/-
  The set of ids that guard.Touched makes: a map of integers, by what it has; the ids that ops touch may be ids.
-/
namespace Go.Proofs.YtikjmingkadjcaaGreatDoor
open Go.RowKit Go.Maps
set_option linter.unusedVariables false
set_option linter.unusedSimpArgs false

def IntK (D : DataW Unit) : Prop := ∃ es, D = .map es ∧ ∀ p ∈ es, ∃ x : Int, p.1 = .int .i64 x
theorem IntK.put {D : DataW Unit} (h : IntK D) (x : Int) (d : DataW Unit) : IntK (D.put (.int .i64 x) d) := by
  obtain ⟨es, rfl, he⟩ := h
  refine ⟨DataW.insert (.int .i64 x, d) (es.filter fun p => !p.1.sameKey (.int .i64 x)), rfl, fun p hp => ?_⟩
  rcases Go.ChangeMaps.mem_insert_iff.1 hp with rfl | hp
  · exact ⟨x, rfl⟩
  · exact he p (List.mem_filter.1 hp).1
def SetI (w : World) (b n : Nat) (X : List Int) : Prop := ∃ D : DataW Unit, w.ownsMap Tryz.prog 3 unitElem b n D ∧ IntK D ∧ ∀ x, has D (.int .i64 x) = true ↔ x ∈ X
theorem setI_made (w : World) : SetI (w.alloc (.map #[] 0)) w.heap.size 0 [] := ⟨_, World.ownsMap_made w _ _ _, ⟨[], rfl, by simp⟩, fun x => by simp [has]⟩
theorem has_int {D : DataW Unit} (h : IntK D) (x : Int) : has D (.int .i64 x) = true ↔ x ∈ intKeys D := by
  obtain ⟨es, rfl, he⟩ := h
  rw [has_eq, List.any_eq_true]
  unfold intKeys
  rw [List.mem_map]
  constructor
  · rintro ⟨p, hp', hs⟩
    obtain ⟨a, ha⟩ := he p hp'
    rw [ha] at hs
    exact ⟨p, hp', by rw [ha]; simpa [Lit.sameKey, _root_.Go.intOf] using hs⟩
  · rintro ⟨p, hp', rfl⟩
    obtain ⟨a, ha⟩ := he p hp'
    exact ⟨p, hp', by rw [ha]; simp [Lit.sameKey, _root_.Go.intOf]⟩
theorem setI_put {w : World} {b n : Nat} {X : List Int} (h : SetI w b n X) (hn : n < maxLen) {x : Int} (hx : in64 x) : ∃ w', (Instr.mapUpdate 81 (.map (some b)) (.int .i64 x) (.agg #[])).run Tryz.prog w = .ok () w' ∧ SetI w' b (n + 1) (X ++ [x]) ∧ w.grownBy w' (some b) := by
  obtain ⟨D, h1, h2, h3⟩ := h
  obtain ⟨w', e, r1, r2⟩ := h1.store keyedI Tryz.underlying81 hn (Go.Maps.keyOf_int_mk Tryz.underlying3 hx) unitElem_mk
  refine ⟨w', e, ⟨_, r1, h2.put x _, fun y => ?_⟩, r2.grown⟩
  by_cases hy : y = x
  · subst hy
    rw [has_put_same (let ⟨es, e, _⟩ := h2; ⟨es, e⟩) (by trivial)]
    simp
  · rw [has_put_other (fun e => hy (by injection e)), h3 y]
    simp [hy]
theorem SetI.of_block {w w' : World} {b n : Nat} {X : List Int} (h : SetI w b n X) (hb : w'.heap[b]? = w.heap[b]?) : SetI w' b n X := by
  obtain ⟨D, ⟨es, clock, e1, e2⟩, h2⟩ := h
  exact ⟨D, ⟨es, clock, hb.trans e1, e2⟩, h2⟩
theorem SetI.lt {w : World} {b n : Nat} {X : List Int} (h : SetI w b n X) : b < w.heap.size := let ⟨_, h, _⟩ := h; h.lt
theorem SetI.no_cell {w : World} {b n : Nat} {X : List Int} (h : SetI w b n X) (a : Addr) (ha : a.block = b) : w.cell? a = none := by
  obtain ⟨D, ⟨es, clock, e1, _⟩, _⟩ := h
  subst ha
  simp [World.cell?, e1]

theorem idOk_te {t : Te} (h : teE none t = 0) : idOk t.fr = true ∧ idOk t.tt = true := by
  unfold teE at h
  split at h
  · split at h
    · rename_i h2
      simpa using h2
    · cases h
  · rename_i h1; exact absurd h h1
theorem idOk_nd {n : Nd} (h : ndE none n = 0) : idOk n.id = true := ((ndE_iff n).1 h).1
theorem tou_ids {T0 : List Te} (h0 : ∀ t ∈ T0, teE none t = 0) : ∀ (O : List Opx) (M : List Nd) (U : List Te), gErr M U = 0 → opS.err O M U = 0 → ∀ o ∈ O, ∀ x ∈ touB T0 o, idOk x = true
  | [], M, U, _, _, o, ho, x, hx => by cases ho
  | q :: O, M, U, hg, he, o, ho, x, hx => by
    have e : opE q M U = 0 := by
      by_cases e : opS.e q M U = 0
      · exact e
      · unfold OpS.err at he; rw [if_neg e] at he; exact absurd he e
    have he' : opS.err O (opM q M U) (opT q M U) = 0 := by unfold OpS.err at he; rw [if_pos (show opS.e q M U = 0 from e)] at he; exact he
    rcases List.mem_cons.1 ho with rfl | ho
    · obtain ⟨⟨_, _, hn⟩, ⟨_, hs, ht⟩⟩ := (gErr_iff M U).1 hg
      have nd : fndN o.nd.id M = true → idOk o.nd.id = true := fun hf => by
        obtain ⟨g, e2, hg2⟩ := fnd_at hf
        rw [← hg2]; exact idOk_nd (hn g (List.mem_of_getElem? e2))
      unfold touB at hx
      rcases opE_cases e with ⟨h, e1, _⟩ | ⟨h, hf, e1, _⟩ | ⟨h, hf, ⟨r, e1⟩, _⟩ | ⟨h, e1, _⟩ | ⟨h, hf, e1, _⟩
      · rw [if_neg (by omega), if_neg (by omega)] at hx
        rw [List.mem_singleton.1 hx]
        have : newE o.nd M = 0 := by unfold opE at e; rw [if_pos h] at e; exact e
        exact idOk_nd (gErr_one (newE_zero this).1)
      · rw [if_neg (by omega), if_pos h] at hx
        rcases List.mem_append.1 hx with hx | hx
        · obtain ⟨t, ht2, hh⟩ := List.mem_filterMap.1 hx
          obtain ⟨a, b⟩ := idOk_te (h0 t ht2)
          unfold oth at hh
          split at hh
          · injection hh with hh; rw [← hh]; exact b
          · split at hh
            · injection hh with hh; rw [← hh]; exact a
            · cases hh
        · rw [List.mem_singleton.1 hx]; exact nd hf
      · rw [if_neg (by omega), if_neg (by omega)] at hx
        rw [List.mem_singleton.1 hx]; exact nd hf
      · rw [if_pos (.inl h)] at hx
        have : bindE o.te U = 0 := by unfold opE at e; rw [if_neg (by omega), if_neg (by omega), if_neg (by omega), if_neg (by omega), if_pos h] at e; exact e
        obtain ⟨a, b⟩ := idOk_te (gErr_oneT (bindE_zero this).1)
        rcases List.mem_cons.1 hx with rfl | hx
        · exact a
        · rw [List.mem_singleton.1 hx]; exact b
      · rw [if_pos (.inr h)] at hx
        obtain ⟨a, b⟩ := idOk_te (ht _ ((fndT_iff hs).1 hf))
        rcases List.mem_cons.1 hx with rfl | hx
        · exact a
        · rw [List.mem_singleton.1 hx]; exact b
    · exact tou_ids h0 O _ _ (keeps_all q M U hg e) he' o ho x hx
theorem idOk_64 {x : Int} (h : idOk x = true) : in64 x := by
  unfold idOk at h
  simp at h
  unfold in64
  simp [Lit.wf, IntKind.min, IntKind.max, IntKind.signed, IntKind.bits]
  omega
theorem touB_len (T : List Te) (o : Opx) (h : T.length ≤ 120) : (touB T o).length ≤ 121 := by
  unfold touB
  have := ends_le T o.nd.id
  split
  · simp
  · split
    · simp; omega
    · simp
end Go.Proofs.YtikjmingkadjcaaGreatDoor
