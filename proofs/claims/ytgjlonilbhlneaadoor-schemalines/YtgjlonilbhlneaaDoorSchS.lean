/-
  The walk of schema.Print.
-/
import Derived.Test.YtgjlonilbhlneaaDoorSchT
namespace Go.Proofs.YtgjlonilbhlneaaDoor
open Go.RowKit
set_option linter.unusedVariables false
set_option linter.unusedSimpArgs false

/-- A builder stays what it is where nothing old turns. -/
theorem bld_on {B b : Nat} {xs : List Value} {w w' : World} (h : Lib.IsBuilderF 38 5 B b xs w) (hB : Below w.heap.size w w') : Lib.IsBuilderF 38 5 B b xs w' := by
  have hg : w.grownBy w' none := ⟨hB.os, hB.tape, hB.output, hB.size, fun k hk _ => hB.block k hk⟩
  have step : ∀ {p}, Lib.BuilderAtF 38 5 B b p xs w → Lib.BuilderAtF 38 5 B b p xs w' := fun {p} h => by
    have hlt := h.lt
    obtain ⟨h1, v, h2, h3, h4⟩ := h
    exact ⟨h1, v, (hB.block b hlt).trans h2, h3.kept hg (Classical.em _), h4⟩
  rcases h with h | h
  · exact .inl (step h)
  · exact .inr (step h)
theorem bytes_app (a b : Nm) : Lib.byteCells (a ++ b) = Lib.byteCells a ++ Lib.strCells (bs b) := by
  rw [Lib.strCells_eq, bs_data]; simp [Lib.byteCells]
theorem isK_view {w : World} {v : Value} {l : List Kd} (h : IsK w v l) : ∃ ao c, v = .slice ao l.length c ∧ l.length ≤ maxLen ∧ ∀ (j : Nat) g, l[j]? = some g → ∃ b o, ao = some ⟨b, o, none⟩ ∧ b < w.heap.size ∧ LiesK w b o l := by
  rcases h with ⟨rfl, rfl⟩ | ⟨b, off, cap, rfl, h1, h2, hb, hl⟩
  · exact ⟨none, 0, rfl, by unfold maxLen; simp, fun j g hg => by simp at hg⟩
  · exact ⟨_, _, rfl, by omega, fun j g hg => ⟨b, off, rfl, hb, hl⟩⟩
/-- Between two rounds over the kinds; over the bonds. -/
def P1 (w1 : World) (L : List Kd) (s : Value) (wr : World) : Prop :=
  ∃ m : Nat, m ≤ L.length ∧ s = .int .i64 m ∧ Lib.IsBuilderF 38 5 w1.heap.size w1.heap.size (Lib.byteCells (kText (L.take m))) wr ∧ Below w1.heap.size w1 wr
def P2 (w1 : World) (L : List Kd) (B : List Bd) (s : Value) (wr : World) : Prop :=
  ∃ m : Nat, m ≤ B.length ∧ s = .int .i64 m ∧ Lib.IsBuilderF 38 5 w1.heap.size w1.heap.size (Lib.byteCells (kText L ++ bText (B.take m))) wr ∧ Below w1.heap.size w1 wr

set_option maxHeartbeats 8000000 in
set_option maxRecDepth 100000 in
theorem sprint_ok {vk vb : Value} {L : List Kd} {B : List Bd} {w : World} (hK : IsK w vk L) (hP : Parts w L) (hz : SzK L) (hb : IsB w vb B) (hzb : SzB B) (hT : TW w) (he : (sErr L B).2 = 0) :
    Calls Tryd.prog 4 #[.agg #[vk, vb]] w fun e w' => e = .returned (.tuple #[.string (bs (sText L B)), .nilIface]) ∧ Below w.heap.size w w' := by
  obtain ⟨hks, hGB, hB12⟩ := sErr_good.1 he
  obtain ⟨hG, hL12⟩ := ksErr_good.1 hks
  obtain ⟨ak, ck, evk, hkl, hvk⟩ := isK_view hK
  obtain ⟨ab, cb, evb, _, _, hvb⟩ := isB_view hb
  subst evk
  subst evb
  have hB0 : Below w.heap.size w (w.alloc (.cells #[.slice ak L.length ck, .slice ab B.length cb] 25)) := b_alloc (Below.refl _ _) (Nat.le_refl _) _
  have cs := scheck_any (hK.on hB0) (hP.on hB0) hz (hb.on hB0) hzb
  rw [he, errV_0] at cs
  have HH : Hid (Parts w L ∧ Good L ∧ GoodB L B ∧ TW w ∧ (∀ (j : Nat) g, L[j]? = some g → ∃ b o, ak = some ⟨b, o, none⟩ ∧ b < w.heap.size ∧ LiesK w b o L) ∧ (∀ (j : Nat) g, B[j]? = some g → ∃ b o, ab = some ⟨b, o, none⟩ ∧ b < w.heap.size ∧ LiesB w b o B)) := ⟨hP, hG, hGB, hT, hvk, hvb⟩
  have HB0 : Hid (Below w.heap.size w (w.alloc (.cells #[.slice ak L.length ck, .slice ab B.length cb] 25))) := hB0
  have HKL : Hid (∀ m, (kText (L.take m)).length ≤ 445 * 12) := fun m => by
    have := lines_len kWords 444 (L.take m) (fun k hk => kLine_len k (good_ok hG (List.mem_of_mem_take hk)) (name_len (good_name hG (List.mem_of_mem_take hk))))
    have h2 := List.length_take_le m L
    have h3 : (L.take m).length ≤ 12 := by simp only [List.length_take]; omega
    unfold kText
    exact Nat.le_trans this (Nat.mul_le_mul_left _ h3)
  have HBL : Hid (∀ m, (bText (B.take m)).length ≤ 133 * 12) := fun m => by
    have := lines_len bWords 132 (B.take m) (fun x hx => bLine_len x (good_bond hG hGB (List.mem_of_mem_take hx)))
    have h3 : (B.take m).length ≤ 12 := by simp only [List.length_take]; omega
    unfold bText
    exact Nat.le_trans this (Nat.mul_le_mul_left _ h3)
  generalize (sErr L B).1 = nme at cs
  clear hK hP hz hb hzb hT he hks hGB hG hvk hvb hB0
  go_enter Tryd.func4, Tryd.ntmps4
  go_wp2_with (go_at_call 5; refine cs.mono ?_; rintro e W1 ⟨rfl, hB1⟩; refine Hid.out ?_)
  refine Lib.hid ?_
  have g0 := hB1.cell (p := ⟨w.heap.size, 0, none⟩) (by simp)
  have g1 := hB1.cell (p := ⟨w.heap.size, 1, none⟩) (by simp)
  simp at g0 g1
  have hsz1 : w.heap.size < W1.heap.size := Nat.lt_of_lt_of_le (by simp) hB1.size
  have HBw1 : Hid (Below w.heap.size w W1) := on1 HB0.out hB1 (Nat.le_refl _)
  have HST : Hid (P1 W1 L (.int .i64 0) (W1.alloc (.cells #[.pointer none, .slice none 0 0] 38))) := ⟨0, Nat.zero_le _, rfl, .of (Lib.fresh_isBuilder 38 5 W1), b_alloc (Below.refl _ _) (Nat.le_refl _) _⟩
  have hsn : ¬ w.heap.size = W1.heap.size := by omega
  clear cs hB1
  go_wp2
  go_loopw [22] (fun s wr => P1 W1 L s wr) (fun s _ => L.length - (intOf s).toNat)
  case atStart => exact HST.out
  case round =>
    obtain ⟨m, hm, rfl, hbu, hB⟩ := hrel
    have hBw := on1 HBw1.out hB (Nat.le_refl _)
    have HBU : Hid (Lib.IsBuilderF 38 5 W1.heap.size W1.heap.size (Lib.byteCells (kText (L.take m))) wr ∧ Below W1.heap.size W1 wr) := ⟨hbu, hB⟩
    have r1 := (hB.cell (p := ⟨w.heap.size, 1, none⟩) hsz1).trans g1
    clear hbu
    by_cases hlt : m < L.length
    · obtain ⟨p, hp⟩ : ∃ p, L[m]? = some p := ⟨L[m], by simp [hlt]⟩
      obtain ⟨hPp, hGp, _, hTp, hvk, _⟩ := HH.out
      obtain ⟨bk, ok, rfl, hbk, hlk⟩ := hvk m p hp
      have hpm : p ∈ L := List.mem_of_getElem? hp
      obtain ⟨c0, c1, c2⟩ := hlk m p hp
      obtain ⟨ao, co, evo, _⟩ := (hPp p hpm).1.sln
      obtain ⟨af, cf, evf, _⟩ := (hPp p hpm).2.sln
      rw [evo] at c1
      rw [evf] at c2
      have x0 := (hBw.cell (p := ⟨bk, ok + m * 3, none⟩) hbk).trans c0
      have x1 := (hBw.cell (p := ⟨bk, ok + m * 3 + 1, none⟩) hbk).trans c1
      have x2 := (hBw.cell (p := ⟨bk, ok + m * 3 + 2, none⟩) hbk).trans c2
      have hBx : Below w.heap.size w (wr.alloc (.cells #[.string (bs p.nm), .slice ao p.of.length co, .slice af p.fs.length cf] 33)) := b_alloc hBw (Nat.le_refl _) _
      have cp := printKind_any p _ ((hPp p hpm).1.on hBx) ((hPp p hpm).2.on hBx) (good_ok hGp hpm) (hTp.on hBx)
      unfold Kd.one at cp
      rw [evo, evf] at cp
      have HW : Hid ((0 < (kWords p).length ∧ (kWords p).length ≤ 12) ∧ (Lib.join (kWords p) [32]).length ≤ 444 ∧ kText (L.take (m + 1)) = kText (L.take m) ++ lineL (kWords p)) := by
        have hk := good_ok hGp hpm
        have hl := name_len (good_name hGp hpm)
        obtain ⟨w1, w2, _⟩ := kWords_len p hk hl
        exact ⟨⟨w1, w2⟩, kLine_len p hk hl, kText_take hp⟩
      have hmi : (m : Int) < (L.length : Int) := by omega
      have HBX : Hid (Below W1.heap.size W1 (wr.alloc (.cells #[.string (bs p.nm), .slice ao p.of.length co, .slice af p.fs.length cf] 33)) ∧ Lib.IsBuilderF 38 5 W1.heap.size W1.heap.size (Lib.byteCells (kText (L.take m))) (wr.alloc (.cells #[.string (bs p.nm), .slice ao p.of.length co, .slice af p.fs.length cf] 33))) := ⟨b_alloc hB (Nat.le_refl _) _, HBU.out.1.alloc _⟩
      clear hPp hGp hTp hvk hlk c0 c1 c2 evo evf hp hpm hBx
      go_wp2_with (go_at_call 8; refine cp.mono ?_; rintro e W3 ⟨v3, rfl, hi3, hB3⟩; refine Hid.out ?_)
      refine Lib.hid ?_
      have cl := lineOf_any hi3 HW.out.1.1 (by have := HW.out.1.2; omega) (by have := HW.out.2.1; omega)
      have HB3 : Hid (Below W1.heap.size W1 W3 ∧ Lib.IsBuilderF 38 5 W1.heap.size W1.heap.size (Lib.byteCells (kText (L.take m))) W3) := ⟨on1 HBX.out.1 hB3 (Nat.le_refl _), bld_on HBX.out.2 hB3⟩
      clear cp hi3 hB3
      go_wp2_with (go_at_call 7; refine cl.mono ?_; rintro e W4 ⟨rfl, hB4⟩; refine Hid.out ?_)
      refine Lib.hid ?_
      have HB4 : Hid (Below W1.heap.size W1 W4) := on1 HB3.out.1 hB4 (Nat.le_refl _)
      have cw := writeString_k W1.heap.size W1.heap.size (Lib.byteCells (kText (L.take m))) (bs (lineL (kWords p))) W4 (bld_on HB3.out.2 hB4) (by
        rw [Lib.byteCells_length, bs_size]
        have h1 := HKL.out m
        have h2 := HW.out.2.1
        have h3 : (lineL (kWords p)).length = (Lib.join (kWords p) [32]).length + 1 := by unfold lineL; simp
        omega) HB4.out.size
      clear cl hB4
      go_wp2_with (go_at_call 6; refine cw.mono ?_; rintro e W5 ⟨rfl, hb5, hB5, _⟩; refine Hid.out ?_)
      refine Lib.hid ?_
      have HRR : Hid (P1 W1 L (.int .i64 ((m + 1 : Nat) : Int)) W5) := by
        refine ⟨m + 1, by omega, rfl, ?_, HB4.out.trans hB5⟩
        rw [HW.out.2.2, bytes_app]
        exact .inr hb5
      clear cw hb5 hB5
      go_wp2
      refine ⟨?_, ?_⟩
      · first | exact HRR.out | ((repeat apply Exists.intro); refine ⟨?_, rfl⟩; exact HRR.out)
      · simp [intOf]
        try omega
    · have hme : L.take m = L := List.take_of_length_le (by omega)
      have HS2 : Hid (P2 W1 L B (.int .i64 0) wr) := by
        refine ⟨0, Nat.zero_le _, rfl, ?_, HBU.out.2⟩
        have := HBU.out.1
        rw [hme] at this
        simpa [bText] using this
      clear hme HBU hB
      go_wp2
      go_loopw [34] (fun s wr => P2 W1 L B s wr) (fun s _ => B.length - (intOf s).toNat)
      case atStart => exact HS2.out
      case round =>
        obtain ⟨q, hq, rfl, hbu, hB⟩ := hrel
        have hBw := on1 HBw1.out hB (Nat.le_refl _)
        have HBU : Hid (Lib.IsBuilderF 38 5 W1.heap.size W1.heap.size (Lib.byteCells (kText L ++ bText (B.take q))) wr ∧ Below W1.heap.size W1 wr) := ⟨hbu, hB⟩
        clear hbu
        by_cases hltq : q < B.length
        · obtain ⟨p, hp⟩ : ∃ p, B[q]? = some p := ⟨B[q], by simp [hltq]⟩
          obtain ⟨_, hGp, hGBp, _, _, hvb⟩ := HH.out
          obtain ⟨bk, ok, rfl, hbk, hlk⟩ := hvb q p hp
          have hpm : p ∈ B := List.mem_of_getElem? hp
          obtain ⟨c0, c1, c2, c3, c4⟩ := hlk q p hp
          have x0 := (hBw.cell (p := ⟨bk, ok + q * 5, none⟩) hbk).trans c0
          have x1 := (hBw.cell (p := ⟨bk, ok + q * 5 + 1, none⟩) hbk).trans c1
          have x2 := (hBw.cell (p := ⟨bk, ok + q * 5 + 2, none⟩) hbk).trans c2
          have x3 := (hBw.cell (p := ⟨bk, ok + q * 5 + 3, none⟩) hbk).trans c3
          have x4 := (hBw.cell (p := ⟨bk, ok + q * 5 + 4, none⟩) hbk).trans c4
          have hok := good_bond hGp hGBp hpm
          have cp := printBond_any p (wr.alloc (boxB p)) hok.rg
          have HW : Hid ((Lib.join (bWords p) [32]).length ≤ 132 ∧ bText (B.take (q + 1)) = bText (B.take q) ++ lineL (bWords p)) := ⟨bLine_len p hok, bText_take hp⟩
          have hmi : (q : Int) < (B.length : Int) := by omega
          have HBX : Hid (Below W1.heap.size W1 (wr.alloc (boxB p)) ∧ Lib.IsBuilderF 38 5 W1.heap.size W1.heap.size (Lib.byteCells (kText L ++ bText (B.take q))) (wr.alloc (boxB p))) := ⟨b_alloc hB (Nat.le_refl _) _, HBU.out.1.alloc _⟩
          clear hGp hGBp hvb hlk c0 c1 c2 c3 c4 hp hpm hok
          go_wp2_with (go_at_call 9; refine cp.mono ?_; rintro e W3 ⟨v3, rfl, hi3, hB3⟩; refine Hid.out ?_)
          refine Lib.hid ?_
          have cl := lineOf_any hi3 (by show 0 < 6; omega) (by show 6 ≤ 1000; omega) (by have := HW.out.1; omega)
          have HB3 : Hid (Below W1.heap.size W1 W3 ∧ Lib.IsBuilderF 38 5 W1.heap.size W1.heap.size (Lib.byteCells (kText L ++ bText (B.take q))) W3) := ⟨on1 HBX.out.1 hB3 (Nat.le_refl _), bld_on HBX.out.2 hB3⟩
          clear cp hi3 hB3
          go_wp2_with (go_at_call 7; refine cl.mono ?_; rintro e W4 ⟨rfl, hB4⟩; refine Hid.out ?_)
          refine Lib.hid ?_
          have HB4 : Hid (Below W1.heap.size W1 W4) := on1 HB3.out.1 hB4 (Nat.le_refl _)
          have cw := writeString_k W1.heap.size W1.heap.size (Lib.byteCells (kText L ++ bText (B.take q))) (bs (lineL (bWords p))) W4 (bld_on HB3.out.2 hB4) (by
            rw [Lib.byteCells_length, bs_size, List.length_append]
            have h1 := HKL.out L.length
            rw [List.take_length] at h1
            have h4 := HBL.out q
            have h2 := HW.out.1
            have h3 : (lineL (bWords p)).length = (Lib.join (bWords p) [32]).length + 1 := by unfold lineL; simp
            omega) HB4.out.size
          clear cl hB4
          go_wp2_with (go_at_call 6; refine cw.mono ?_; rintro e W5 ⟨rfl, hb5, hB5, _⟩; refine Hid.out ?_)
          refine Lib.hid ?_
          have HRR : Hid (P2 W1 L B (.int .i64 ((q + 1 : Nat) : Int)) W5) := by
            refine ⟨q + 1, by omega, rfl, ?_, HB4.out.trans hB5⟩
            rw [HW.out.2, ← List.append_assoc, bytes_app]
            exact .inr hb5
          clear cw hb5 hB5
          go_wp2
          refine ⟨?_, ?_⟩
          · first | exact HRR.out | ((repeat apply Exists.intro); refine ⟨?_, rfl⟩; exact HRR.out)
          · simp [intOf]
            try omega
        · have hqe : B.take q = B := List.take_of_length_le (by omega)
          have cS := Tryd.Builder_String_any_k W1.heap.size W1.heap.size (sText L B) wr (by
            have := HBU.out.1
            rw [hqe] at this
            exact this) hB.size
          clear hqe HBU
          go_wp2_with (go_at_call 10; refine cS.mono ?_; rintro e W6 ⟨rfl, _, hB6, _⟩)
          go_ret2
          exact ⟨rfl, HBw1.out.trans ((hB.trans hB6).mono HBw1.out.size)⟩
set_option maxHeartbeats 4000000 in
theorem sprint_bad {vk vb : Value} {L : List Kd} {B : List Bd} {w : World} (hK : IsK w vk L) (hP : Parts w L) (hz : SzK L) (hb : IsB w vb B) (hzb : SzB B) (he : ¬ (sErr L B).2 = 0) :
    Calls Tryd.prog 4 #[.agg #[vk, vb]] w fun e w' => e = .returned (.tuple #[.string ⟨#[]⟩, .iface 48 (.int .i64 (sErr L B).2)]) ∧ Below w.heap.size w w' := by
  obtain ⟨ak, ck, evk, hkl, _⟩ := isK_view hK
  obtain ⟨ab, cb, evb, _, _, _⟩ := isB_view hb
  subst evk
  subst evb
  have hB0 : Below w.heap.size w (w.alloc (.cells #[.slice ak L.length ck, .slice ab B.length cb] 25)) := b_alloc (Below.refl _ _) (Nat.le_refl _) _
  have cs := scheck_any (hK.on hB0) (hP.on hB0) hz (hb.on hB0) hzb
  rw [errV_ne he] at cs
  generalize (sErr L B).2 = x at cs ⊢
  generalize (sErr L B).1 = nme at cs
  clear hK hP hz hb hzb he
  go_enter Tryd.func4, Tryd.ntmps4
  go_wp2_with (go_at_call 5; refine cs.mono ?_; rintro e W1 ⟨rfl, hB1⟩)
  go_ret2
  exact ⟨rfl, on1 hB0 hB1 (Nat.le_refl _)⟩
end Go.Proofs.YtgjlonilbhlneaaDoor
