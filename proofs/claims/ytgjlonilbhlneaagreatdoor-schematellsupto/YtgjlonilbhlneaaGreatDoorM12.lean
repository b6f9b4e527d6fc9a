/-
  The walk of schema.Print.
-/
import Derived.Test.YtgjlonilbhlneaaGreatDoorM11
import Derived.Test.YtgjlonilbhlneaaGreatDoorRows
import Derived.Lib.LaidTab
import Derived.ProofKit
import Derived.LaidMore
import Derived.OpenShut
import Derived.ShutString
import Derived.ChangeMaps5
import Derived.Stop.Joined
import Derived.Stop.LaidErr
import Derived.Lib.SmallJoins
import Derived.Carry
import Derived.SizedLaws
import Derived.MakeChecks
import Derived.Deep.Slices
import Derived.Deep.Strs
namespace Go.Proofs.YtgjlonilbhlneaaGreatDoor
open Go.RowKit
set_option linter.unusedVariables false
set_option linter.unusedSimpArgs false

theorem bld_on {B b : Nat} {xs : List Value} {w w' : World} (h : Lib.IsBuilderF 67 5 B b xs w) (hB : Below w.heap.size w w') : Lib.IsBuilderF 67 5 B b xs w' := by
  have hg : w.grownBy w' none := ⟨hB.os, hB.tape, hB.output, hB.size, fun k hk _ => hB.block k hk⟩
  have step : ∀ {p}, Lib.BuilderAtF 67 5 B b p xs w → Lib.BuilderAtF 67 5 B b p xs w' := fun {p} h => by
    have hlt := h.lt
    obtain ⟨h1, v, h2, h3, h4⟩ := h
    exact ⟨h1, v, (hB.block b hlt).trans h2, h3.kept hg (Classical.em _), h4⟩
  rcases h with h | h
  · exact .inl (step h)
  · exact .inr (step h)
theorem bytes_app (a b : Nm) : Lib.byteCells (a ++ b) = Lib.byteCells a ++ Lib.strCells (bs b) := by
  rw [Lib.strCells_eq, bs_data]; simp [Lib.byteCells]
theorem isK_view {w : World} {v : Value} {l : List Kd} (h : IsK w v l) : ∃ ao c, v = .slice ao l.length c ∧ l.length ≤ maxLen ∧ ∀ (j : Nat) g, l[j]? = some g → ∃ b o, ao = some ⟨b, o, none⟩ ∧ b < w.heap.size ∧ LiesK w b o l := by
  rcases h with ⟨rfl, rfl⟩ | ⟨b, off, cap, rfl, h1, h2, hb, hl⟩
  · exact ⟨none, 0, rfl, by unfold maxLen; simp, fun j g hg => by simp at hg⟩
  · exact ⟨_, _, rfl, by omega, fun j g hg => ⟨b, off, rfl, hb, hl⟩⟩
def P1 (w1 : World) (L : List Kd) (s : Value) (wr : World) : Prop :=
  ∃ m : Nat, m ≤ L.length ∧ s = .int .i64 m ∧ Lib.IsBuilderF 67 5 w1.heap.size w1.heap.size (Lib.byteCells (kText (L.take m))) wr ∧ Below w1.heap.size w1 wr
def P2 (w1 : World) (L : List Kd) (B : List Bd) (s : Value) (wr : World) : Prop :=
  ∃ m : Nat, m ≤ B.length ∧ s = .int .i64 m ∧ Lib.IsBuilderF 67 5 w1.heap.size w1.heap.size (Lib.byteCells (kText L ++ bText (B.take m))) wr ∧ Below w1.heap.size w1 wr

set_option maxHeartbeats 8000000 in
set_option maxRecDepth 100000 in
theorem sprint_ok {vk vb : Value} {L : List Kd} {B : List Bd} {w : World} (hK : IsK w vk L) (hP : Parts w L) (hz : SzK L) (hb : IsB w vb B) (hzb : SzB B) (hT : TW w) (he : (sErr L B).2 = 0) :
    Calls Tryz.prog 9 #[.agg #[vk, vb]] w fun e w' => e = .returned (.tuple #[.string (bs (sText L B)), .nilIface]) ∧ Below w.heap.size w w' := by
  obtain ⟨hks, hGB, hB12⟩ := sErr_good.1 he
  obtain ⟨hG, hL12⟩ := ksErr_good.1 hks
  obtain ⟨ak, ck, evk, hkl, hvk⟩ := isK_view hK
  obtain ⟨ab, cb, evb, _, _, hvb⟩ := isB_view hb
  subst evk
  subst evb
  have hB0 : Below w.heap.size w (w.alloc (.cells #[.slice ak L.length ck, .slice ab B.length cb] 25)) := b_alloc (Below.refl _ _) (Nat.le_refl _) _
  have cs := scheck_any (hK.on hB0) (hP.on hB0) hz (hb.on hB0) hzb
  rw [he, errV_0] at cs
  have HH : Hid (Parts w L ∧ Good L ∧ GoodB L B ∧ TW w ∧ (∀ (j : Nat) g, L[j]? = some g → ∃ b o, ak = some ⟨b, o, none⟩ ∧ b < w.heap.size ∧ LiesK w b o L) ∧ (∀ (j : Nat) g, B[j]? = some g → ∃ b o, ab = some ⟨b, o, none⟩ ∧ b < w.heap.size ∧ LiesB w b o B)) := ⟨hP, hG, hGB, hT, hvk, hvb⟩
  have HB0 : Hid (Below w.heap.size w (w.alloc (.cells #[.slice ak L.length ck, .slice ab B.length cb] 25))) := hB0
  have HKL : Hid (∀ m, (kText (L.take m)).length ≤ 445 * 12) := fun m => by
    have := lines_len kWords 444 (L.take m) (fun k hk => kLine_len k (good_ok hG (List.mem_of_mem_take hk)) (name_len (good_name hG (List.mem_of_mem_take hk))))
    have h2 := List.length_take_le m L
    have h3 : (L.take m).length ≤ 12 := by simp only [List.length_take]; omega
    unfold kText
    exact Nat.le_trans this (Nat.mul_le_mul_left _ h3)
  have HBL : Hid (∀ m, (bText (B.take m)).length ≤ 133 * 12) := fun m => by
    have := lines_len bWords 132 (B.take m) (fun x hx => bLine_len x (good_bond hG hGB (List.mem_of_mem_take hx)))
    have h3 : (B.take m).length ≤ 12 := by simp only [List.length_take]; omega
    unfold bText
    exact Nat.le_trans this (Nat.mul_le_mul_left _ h3)
  generalize (sErr L B).1 = nme at cs
  clear hK hP hz hb hzb hT he hks hGB hG hvk hvb hB0
  go_enter Tryz.func9, Tryz.ntmps9
  go_wp2_with (go_at_call 6; refine cs.mono ?_; rintro e W1 ⟨rfl, hB1⟩; refine Hid.out ?_)
  refine Lib.hid ?_
  have g0 := hB1.cell (p := ⟨w.heap.size, 0, none⟩) (by simp)
  have g1 := hB1.cell (p := ⟨w.heap.size, 1, none⟩) (by simp)
  simp at g0 g1
  have hsz1 : w.heap.size < W1.heap.size := Nat.lt_of_lt_of_le (by simp) hB1.size
  have HBw1 : Hid (Below w.heap.size w W1) := on1 HB0.out hB1 (Nat.le_refl _)
  have HST : Hid (P1 W1 L (.int .i64 0) (W1.alloc (.cells #[.pointer none, .slice none 0 0] 67))) := ⟨0, Nat.zero_le _, rfl, .of (Lib.fresh_isBuilder 67 5 W1), b_alloc (Below.refl _ _) (Nat.le_refl _) _⟩
  have hsn : ¬ w.heap.size = W1.heap.size := by omega
  clear cs hB1
  go_wp2
  go_loopw [22] (fun s wr => P1 W1 L s wr) (fun s _ => L.length - (intOf s).toNat)
  case atStart => exact HST.out
  case round =>
    obtain ⟨m, hm, rfl, hbu, hB⟩ := hrel
    have hBw := on1 HBw1.out hB (Nat.le_refl _)
    have HBU : Hid (Lib.IsBuilderF 67 5 W1.heap.size W1.heap.size (Lib.byteCells (kText (L.take m))) wr ∧ Below W1.heap.size W1 wr) := ⟨hbu, hB⟩
    have r1 := (hB.cell (p := ⟨w.heap.size, 1, none⟩) hsz1).trans g1
    clear hbu
    by_cases hlt : m < L.length
    · obtain ⟨p, hp⟩ : ∃ p, L[m]? = some p := ⟨L[m], by simp [hlt]⟩
      obtain ⟨hPp, hGp, _, hTp, hvk, _⟩ := HH.out
      obtain ⟨bk, ok, rfl, hbk, hlk⟩ := hvk m p hp
      have hpm : p ∈ L := List.mem_of_getElem? hp
      obtain ⟨c0, c1, c2⟩ := hlk m p hp
      obtain ⟨ao, co, evo, _⟩ := (hPp p hpm).1.sln
      obtain ⟨af, cf, evf, _⟩ := (hPp p hpm).2.sln
      rw [evo] at c1
      rw [evf] at c2
      have x0 := (hBw.cell (p := ⟨bk, ok + m * 3, none⟩) hbk).trans c0
      have x1 := (hBw.cell (p := ⟨bk, ok + m * 3 + 1, none⟩) hbk).trans c1
      have x2 := (hBw.cell (p := ⟨bk, ok + m * 3 + 2, none⟩) hbk).trans c2
      have hBx : Below w.heap.size w (wr.alloc (.cells #[.string (bs p.nm), .slice ao p.of.length co, .slice af p.fs.length cf] 55)) := b_alloc hBw (Nat.le_refl _) _
      have cp := printKind_any p _ ((hPp p hpm).1.on hBx) ((hPp p hpm).2.on hBx) (good_ok hGp hpm) (hTp.on hBx)
      unfold Kd.one at cp
      rw [evo, evf] at cp
      have HW : Hid ((0 < (kWords p).length ∧ (kWords p).length ≤ 12) ∧ (Lib.join (kWords p) [32]).length ≤ 444 ∧ kText (L.take (m + 1)) = kText (L.take m) ++ lineL (kWords p)) := by
        have hk := good_ok hGp hpm
        have hl := name_len (good_name hGp hpm)
        obtain ⟨w1, w2, _⟩ := kWords_len p hk hl
        exact ⟨⟨w1, w2⟩, kLine_len p hk hl, kText_take hp⟩
      have hmi : (m : Int) < (L.length : Int) := by omega
      have HBX : Hid (Below W1.heap.size W1 (wr.alloc (.cells #[.string (bs p.nm), .slice ao p.of.length co, .slice af p.fs.length cf] 55)) ∧ Lib.IsBuilderF 67 5 W1.heap.size W1.heap.size (Lib.byteCells (kText (L.take m))) (wr.alloc (.cells #[.string (bs p.nm), .slice ao p.of.length co, .slice af p.fs.length cf] 55))) := ⟨b_alloc hB (Nat.le_refl _) _, HBU.out.1.alloc _⟩
      clear hPp hGp hTp hvk hlk c0 c1 c2 evo evf hp hpm hBx
      go_wp2_with (go_at_call 27; refine cp.mono ?_; rintro e W3 ⟨v3, rfl, hi3, hB3⟩; refine Hid.out ?_)
      refine Lib.hid ?_
      have cl := lineOf_any hi3 HW.out.1.1 (by have := HW.out.1.2; omega) (by have := HW.out.2.1; omega)
      have HB3 : Hid (Below W1.heap.size W1 W3 ∧ Lib.IsBuilderF 67 5 W1.heap.size W1.heap.size (Lib.byteCells (kText (L.take m))) W3) := ⟨on1 HBX.out.1 hB3 (Nat.le_refl _), bld_on HBX.out.2 hB3⟩
      clear cp hi3 hB3
      go_wp2_with (go_at_call 26; refine cl.mono ?_; rintro e W4 ⟨rfl, hB4⟩; refine Hid.out ?_)
      refine Lib.hid ?_
      have HB4 : Hid (Below W1.heap.size W1 W4) := on1 HB3.out.1 hB4 (Nat.le_refl _)
      have cw := writeString_k W1.heap.size W1.heap.size (Lib.byteCells (kText (L.take m))) (bs (lineL (kWords p))) W4 (bld_on HB3.out.2 hB4) (by
        rw [Lib.byteCells_length, bs_size]
        have h1 := HKL.out m
        have h2 := HW.out.2.1
        have h3 : (lineL (kWords p)).length = (Lib.join (kWords p) [32]).length + 1 := by unfold lineL; simp
        omega) HB4.out.size
      clear cl hB4
      go_wp2_with (go_at_call 25; refine cw.mono ?_; rintro e W5 ⟨rfl, hb5, hB5, _⟩; refine Hid.out ?_)
      refine Lib.hid ?_
      have HRR : Hid (P1 W1 L (.int .i64 ((m + 1 : Nat) : Int)) W5) := by
        refine ⟨m + 1, by omega, rfl, ?_, HB4.out.trans hB5⟩
        rw [HW.out.2.2, bytes_app]
        exact .inr hb5
      clear cw hb5 hB5
      go_wp2
      refine ⟨?_, ?_⟩
      · first | exact HRR.out | ((repeat apply Exists.intro); refine ⟨?_, rfl⟩; exact HRR.out)
      · simp [intOf]
        try omega
    · have hme : L.take m = L := List.take_of_length_le (by omega)
      have HS2 : Hid (P2 W1 L B (.int .i64 0) wr) := by
        refine ⟨0, Nat.zero_le _, rfl, ?_, HBU.out.2⟩
        have := HBU.out.1
        rw [hme] at this
        simpa [bText] using this
      clear hme HBU hB
      go_wp2
      go_loopw [34] (fun s wr => P2 W1 L B s wr) (fun s _ => B.length - (intOf s).toNat)
      case atStart => exact HS2.out
      case round =>
        obtain ⟨q, hq, rfl, hbu, hB⟩ := hrel
        have hBw := on1 HBw1.out hB (Nat.le_refl _)
        have HBU : Hid (Lib.IsBuilderF 67 5 W1.heap.size W1.heap.size (Lib.byteCells (kText L ++ bText (B.take q))) wr ∧ Below W1.heap.size W1 wr) := ⟨hbu, hB⟩
        clear hbu
        by_cases hltq : q < B.length
        · obtain ⟨p, hp⟩ : ∃ p, B[q]? = some p := ⟨B[q], by simp [hltq]⟩
          obtain ⟨_, hGp, hGBp, _, _, hvb⟩ := HH.out
          obtain ⟨bk, ok, rfl, hbk, hlk⟩ := hvb q p hp
          have hpm : p ∈ B := List.mem_of_getElem? hp
          obtain ⟨c0, c1, c2, c3, c4⟩ := hlk q p hp
          have x0 := (hBw.cell (p := ⟨bk, ok + q * 5, none⟩) hbk).trans c0
          have x1 := (hBw.cell (p := ⟨bk, ok + q * 5 + 1, none⟩) hbk).trans c1
          have x2 := (hBw.cell (p := ⟨bk, ok + q * 5 + 2, none⟩) hbk).trans c2
          have x3 := (hBw.cell (p := ⟨bk, ok + q * 5 + 3, none⟩) hbk).trans c3
          have x4 := (hBw.cell (p := ⟨bk, ok + q * 5 + 4, none⟩) hbk).trans c4
          have hok := good_bond hGp hGBp hpm
          have cp := printBond_any p (wr.alloc (boxB p)) hok.rg
          have HW : Hid ((Lib.join (bWords p) [32]).length ≤ 132 ∧ bText (B.take (q + 1)) = bText (B.take q) ++ lineL (bWords p)) := ⟨bLine_len p hok, bText_take hp⟩
          have hmi : (q : Int) < (B.length : Int) := by omega
          have HBX : Hid (Below W1.heap.size W1 (wr.alloc (boxB p)) ∧ Lib.IsBuilderF 67 5 W1.heap.size W1.heap.size (Lib.byteCells (kText L ++ bText (B.take q))) (wr.alloc (boxB p))) := ⟨b_alloc hB (Nat.le_refl _) _, HBU.out.1.alloc _⟩
          clear hGp hGBp hvb hlk c0 c1 c2 c3 c4 hp hpm hok
          go_wp2_with (go_at_call 28; refine cp.mono ?_; rintro e W3 ⟨v3, rfl, hi3, hB3⟩; refine Hid.out ?_)
          refine Lib.hid ?_
          have cl := lineOf_any hi3 (by show 0 < 6; omega) (by show 6 ≤ 1000; omega) (by have := HW.out.1; omega)
          have HB3 : Hid (Below W1.heap.size W1 W3 ∧ Lib.IsBuilderF 67 5 W1.heap.size W1.heap.size (Lib.byteCells (kText L ++ bText (B.take q))) W3) := ⟨on1 HBX.out.1 hB3 (Nat.le_refl _), bld_on HBX.out.2 hB3⟩
          clear cp hi3 hB3
          go_wp2_with (go_at_call 26; refine cl.mono ?_; rintro e W4 ⟨rfl, hB4⟩; refine Hid.out ?_)
          refine Lib.hid ?_
          have HB4 : Hid (Below W1.heap.size W1 W4) := on1 HB3.out.1 hB4 (Nat.le_refl _)
          have cw := writeString_k W1.heap.size W1.heap.size (Lib.byteCells (kText L ++ bText (B.take q))) (bs (lineL (bWords p))) W4 (bld_on HB3.out.2 hB4) (by
            rw [Lib.byteCells_length, bs_size, List.length_append]
            have h1 := HKL.out L.length
            rw [List.take_length] at h1
            have h4 := HBL.out q
            have h2 := HW.out.1
            have h3 : (lineL (bWords p)).length = (Lib.join (bWords p) [32]).length + 1 := by unfold lineL; simp
            omega) HB4.out.size
          clear cl hB4
          go_wp2_with (go_at_call 25; refine cw.mono ?_; rintro e W5 ⟨rfl, hb5, hB5, _⟩; refine Hid.out ?_)
          refine Lib.hid ?_
          have HRR : Hid (P2 W1 L B (.int .i64 ((q + 1 : Nat) : Int)) W5) := by
            refine ⟨q + 1, by omega, rfl, ?_, HB4.out.trans hB5⟩
            rw [HW.out.2, ← List.append_assoc, bytes_app]
            exact .inr hb5
          clear cw hb5 hB5
          go_wp2
          refine ⟨?_, ?_⟩
          · first | exact HRR.out | ((repeat apply Exists.intro); refine ⟨?_, rfl⟩; exact HRR.out)
          · simp [intOf]
            try omega
        · have hqe : B.take q = B := List.take_of_length_le (by omega)
          have cS := Tryz.Builder_String_any_k W1.heap.size W1.heap.size (sText L B) wr (by
            have := HBU.out.1
            rw [hqe] at this
            exact this) hB.size
          clear hqe HBU
          go_wp2_with (go_at_call 29; refine cS.mono ?_; rintro e W6 ⟨rfl, _, hB6, _⟩)
          go_ret2
          exact ⟨rfl, HBw1.out.trans ((hB.trans hB6).mono HBw1.out.size)⟩
set_option maxHeartbeats 4000000 in
theorem sprint_bad {vk vb : Value} {L : List Kd} {B : List Bd} {w : World} (hK : IsK w vk L) (hP : Parts w L) (hz : SzK L) (hb : IsB w vb B) (hzb : SzB B) (he : ¬ (sErr L B).2 = 0) :
    Calls Tryz.prog 9 #[.agg #[vk, vb]] w fun e w' => e = .returned (.tuple #[.string ⟨#[]⟩, .iface 60 (.int .i64 (sErr L B).2)]) ∧ Below w.heap.size w w' := by
  obtain ⟨ak, ck, evk, hkl, _⟩ := isK_view hK
  obtain ⟨ab, cb, evb, _, _, _⟩ := isB_view hb
  subst evk
  subst evb
  have hB0 : Below w.heap.size w (w.alloc (.cells #[.slice ak L.length ck, .slice ab B.length cb] 25)) := b_alloc (Below.refl _ _) (Nat.le_refl _) _
  have cs := scheck_any (hK.on hB0) (hP.on hB0) hz (hb.on hB0) hzb
  rw [errV_ne he] at cs
  generalize (sErr L B).2 = x at cs ⊢
  generalize (sErr L B).1 = nme at cs
  clear hK hP hz hb hzb he
  go_enter Tryz.func9, Tryz.ntmps9
  go_wp2_with (go_at_call 6; refine cs.mono ?_; rintro e W1 ⟨rfl, hB1⟩)
  go_ret2
  exact ⟨rfl, on1 hB0 hB1 (Nat.le_refl _)⟩
end Go.Proofs.YtgjlonilbhlneaaGreatDoor

/-
  A schema as a parameter; the table of words out of what the row lays.
-/
namespace Go.Proofs.YtgjlonilbhlneaaGreatDoor
open Go.ChangeShapes Go.WideShapes Go.ChangeAt Go.RowKit Go.Joins Go.Deep
open Go.ChangeMaps (open_string shut_string)
set_option linter.unusedVariables false
set_option linter.unusedSimpArgs false

theorem own : ownKnob Tryz.prog.godebug = none := by kernel_rfl
theorem laidOut : laidOutB Tryz.prog = true := by kernel_rfl
theorem cells28 : Tryz.prog.cellsOf 55 = 3 := by kernel_rfl
theorem cells26 : Tryz.prog.cellsOf 45 = 1 := by kernel_rfl
theorem cells25 : Tryz.prog.cellsOf 53 = 1 := by kernel_rfl
theorem cells24 : Tryz.prog.cellsOf 52 = 4 := by kernel_rfl
theorem cells9 : Tryz.prog.cellsOf 9 = 1 := by kernel_rfl
theorem cells3 : Tryz.prog.cellsOf 3 = 1 := by kernel_rfl
theorem cells4 : Tryz.prog.cellsOf 4 = 1 := by kernel_rfl

theorem cells44 : Tryz.prog.cellsOf 40 = 5 := by kernel_rfl
theorem cells22 : Tryz.prog.cellsOf 22 = 1 := by kernel_rfl
theorem cells23 : Tryz.prog.cellsOf 23 = 1 := by kernel_rfl
theorem cellsS25 : Tryz.prog.cellsOf 25 = 2 := by kernel_rfl
theorem types25 : Tryz.prog.cellTypes Tryz.prog.depth 25 = some [22, 23] := by kernel_rfl
theorem cell_plain {W : World} {a : Addr} {u : Value} (h : W.cell? a = some u) : a.spot = none ∧ a.block < W.heap.size := by
  refine ⟨?_, World.block_lt_of_cell? W _ h⟩
  obtain ⟨bk, off, spot⟩ := a
  cases spot with
  | none => rfl
  | some sp =>
    exfalso
    unfold World.cell? at h
    split at h
    · simp at h
    · cases h
theorem addz (a : Addr) : a.add 0 = a := by simp [Addr.add]

section
variable {H : Type} {enc : TypeId × Value → H}
set_option maxRecDepth 100000 in
theorem cells_field {W : World} {b : Nat} {sp : Nat → Bool} {hd : Bool} {n : Nat} {cs : List Value} {x : DataW H × List MemPlace} (hlen : cs.length = 4) (h : DataW.trod enc Tryz.prog W b sp hd n 52 cs = some x) :
    ∃ f : Fd, cs = f.cells ∧ f.nm.length ≤ maxLen := by
  obtain ⟨y0, y1, y2, y3, k, hxy, _, u0, u1, u2, u3⟩ := trod_struct4 Tryz.underlying52 h
  match cs, hlen with
  | [v0, v1, v2, v3], _ =>
    simp only [cells9, cells3, cells4, List.drop, List.take] at u0 u1 u2 u3
    obtain ⟨s0, e0, d0, z0⟩ := DataW.trod_string Tryz.underlying9 u0
    obtain ⟨q1, e1, d1, _⟩ := DataW.trod_int Tryz.underlying3 u1
    obtain ⟨b2, e2, _⟩ := DataW.trod_bool Tryz.underlying4 u2
    obtain ⟨b3, e3, _⟩ := DataW.trod_bool Tryz.underlying4 u3
    simp only [List.cons.injEq, and_true] at e0 e1 e2 e3
    subst e0; subst e1; subst e2; subst e3
    refine ⟨⟨s0.toList, q1, b2, b3⟩, ?_, ?_⟩
    · simp [Fd.cells, bs_self]
    · show s0.toList.length ≤ maxLen
      rw [Lib.toList_data, ← size_len]; exact z0
theorem open_names {W : World} {b : Nat} {sp : Nat → Bool} {hd : Bool} {n : Nat} {v : Value} {x : DataW H × List MemPlace} (h : DataW.trod enc Tryz.prog W b sp hd n 45 [v] = some x) : ∃ l, IsS W v l := by
  rcases open_slice Tryz.underlying45 h with ⟨hc, _⟩ | ⟨a, len, cap, m, n, D, Pl, hc, hb, hl, hm, hmm, _, hall⟩
  · simp only [List.cons.injEq, and_true] at hc
    exact ⟨[], .inl ⟨none, 0, hc, rfl, by decide, fun _ => rfl⟩⟩
  · simp only [List.cons.injEq, and_true] at hc
    subst hc
    have hlm : len ≤ m := by rw [hmm]; split <;> omega
    by_cases h0 : len = 0
    · subst h0
      exact ⟨[], .inl ⟨some a, cap, rfl, rfl, hm, fun e => by cases e⟩⟩
    · have each : ∀ i, i < len → ∃ q : Nm, W.cell? (a.add i) = some (.string (bs q)) := by
        intro i hi
        obtain ⟨cs', h1, h2⟩ := hall i (by omega)
        rw [cells9, Nat.mul_one] at h1
        obtain ⟨_, hlen, hcell⟩ := World.cells?_some h1
        obtain ⟨s, rfl, _⟩ := DataW.trod_string Tryz.underlying9 h2
        have c0 := hcell 0 (by omega)
        refine ⟨s.toList, ?_⟩
        rw [bs_self]
        rw [addz] at c0
        simpa using c0
      obtain ⟨q, hq⟩ := choose_lt each
      have q0 := hq 0 (by omega)
      rw [addz] at q0
      obtain ⟨e1, e2⟩ := cell_plain q0
      obtain ⟨bk, off, spot⟩ := a
      simp only at e1 e2
      subst e1
      refine ⟨(List.range len).map q, .inr ⟨bk, off, cap, by simp, by simpa using hl, hm, e2, fun k y hy => ?_⟩⟩
      rw [List.getElem?_map] at hy
      obtain ⟨k', h1, h2⟩ := Option.map_eq_some_iff.1 hy
      obtain ⟨h3, h4⟩ := List.getElem?_eq_some_iff.1 h1
      simp at h3 h4
      subst h4; subst h2
      have := hq k h3
      rwa [Addr.add_lit] at this
theorem open_fields {W : World} {b : Nat} {sp : Nat → Bool} {hd : Bool} {n : Nat} {v : Value} {x : DataW H × List MemPlace} (h : DataW.trod enc Tryz.prog W b sp hd n 53 [v] = some x) : ∃ l, IsF W v l ∧ ∀ f ∈ l, f.nm.length ≤ maxLen := by
  rcases open_slice Tryz.underlying53 h with ⟨hc, _⟩ | ⟨a, len, cap, m, n, D, Pl, hc, hb, hl, hm, hmm, _, hall⟩
  · simp only [List.cons.injEq, and_true] at hc
    exact ⟨[], .inl ⟨none, 0, hc, rfl, by decide, fun _ => rfl⟩, fun f hf => by simp at hf⟩
  · simp only [List.cons.injEq, and_true] at hc
    subst hc
    have hlm : len ≤ m := by rw [hmm]; split <;> omega
    by_cases h0 : len = 0
    · subst h0
      exact ⟨[], .inl ⟨some a, cap, rfl, rfl, hm, fun e => by cases e⟩, fun f hf => by simp at hf⟩
    · have each : ∀ i, i < len → ∃ f : Fd, (∀ j, j < 4 → W.cell? ((a.add (i * 4)).add j) = f.cells[j]?) ∧ f.nm.length ≤ maxLen := by
        intro i hi
        obtain ⟨cs', h1, h2⟩ := hall i (by omega)
        rw [cells24] at h1
        obtain ⟨_, hlen, hcell⟩ := World.cells?_some h1
        obtain ⟨f, rfl, z⟩ := cells_field hlen h2
        exact ⟨f, hcell, z⟩
      haveI : Inhabited Fd := ⟨⟨[], 0, false, false⟩⟩
      obtain ⟨q, hq⟩ := choose_lt each
      have hsp : a.spot = none ∧ a.block < W.heap.size := by
        have c0 := (hq 0 (by omega)).1 0 (by decide)
        rw [addz, Nat.zero_mul, addz] at c0
        exact cell_plain (c0.trans rfl)
      obtain ⟨bk, off, spot⟩ := a
      obtain ⟨e1, e2⟩ := hsp
      simp only at e1 e2
      subst e1
      refine ⟨(List.range len).map q, .inr ⟨bk, off, cap, by simp, by simpa using hl, hm, e2, fun k y hy => ?_⟩, fun f hf => ?_⟩
      · rw [List.getElem?_map] at hy
        obtain ⟨k', h1, h2⟩ := Option.map_eq_some_iff.1 hy
        obtain ⟨h3, h4⟩ := List.getElem?_eq_some_iff.1 h1
        simp at h3 h4
        subst h4; subst h2
        have hh := (hq k h3).1
        have c0 := hh 0 (by decide)
        have c1 := hh 1 (by decide)
        have c2 := hh 2 (by decide)
        have c3 := hh 3 (by decide)
        rw [Addr.add_lit, Addr.add_lit] at c0 c1 c2 c3
        exact ⟨by simpa [Fd.cells] using c0, by simpa [Fd.cells] using c1, by simpa [Fd.cells] using c2, by simpa [Fd.cells] using c3⟩
      · obtain ⟨i, hi, rfl⟩ := List.mem_map.1 hf
        exact (hq i (List.mem_range.1 hi)).2
theorem shape_lt {W : World} {b : Nat} {x : TypeId × Nat} (h : W.shape? b = some x) : b < W.heap.size := by
  rcases Nat.lt_or_ge b W.heap.size with h1 | h1
  · exact h1
  · exfalso
    simp [World.shape?, Array.getElem?_eq_none h1] at h
set_option maxRecDepth 100000 in
theorem open_kinds {W : World} {r : Reach} {b0 b : Nat} {sp : Nat → Bool} {hd : Bool} {v : Value} {d : DataW H} {p : List MemPlace} (hv : Value.okWide Tryz.prog W r b0 22 v) (h : DataW.Trod enc Tryz.prog W b sp hd 22 v d p) :
    ∃ L, IsK W v L ∧ Parts W L ∧ SzK L := by
  obtain ⟨a, len, cap, rfl⟩ := okWide_slice Tryz.underlying22 hv
  obtain ⟨fuel, hf⟩ := h
  have hf' : DataW.trod enc Tryz.prog W b sp hd fuel 22 [.slice a len cap] = some (d, p) := by simpa [Value.cells] using hf
  rcases open_slice Tryz.underlying22 hf' with ⟨hc, _⟩ | ⟨a', len', cap', m, n, D, Pl, hc, hb, hl, hm, hmm, _, hall⟩
  · simp only [List.cons.injEq, and_true] at hc
    exact ⟨[], .inl ⟨hc, rfl⟩, fun q hq => by simp at hq, fun q hq => by simp at hq⟩
  · simp only [List.cons.injEq, and_true, Value.slice.injEq] at hc
    obtain ⟨rfl, rfl, rfl⟩ := hc
    have hlm : len ≤ m := by rw [hmm]; split <;> omega
    simp only [Value.okWide, Tryz.underlying22, Cell.okWide, Cell.ok] at hv
    obtain ⟨_, _, _, hsp, row, cells, hsh, _⟩ := hv
    have hlt := shape_lt hsh
    obtain ⟨bk, off, spot⟩ := a'
    simp only at hsp hlt
    subst hsp
    have each : ∀ i, i < len → ∃ q : Kd, (W.cell? ⟨bk, off + i * 3, none⟩ = some (.string (bs q.nm)) ∧ W.cell? ⟨bk, off + i * 3 + 1, none⟩ = some q.vo ∧ W.cell? ⟨bk, off + i * 3 + 2, none⟩ = some q.vf) ∧ (IsS W q.vo q.of ∧ IsF W q.vf q.fs) ∧ (q.nm.length ≤ maxLen ∧ ∀ f ∈ q.fs, f.nm.length ≤ maxLen) := by
      intro i hi
      obtain ⟨cs', h1, h2⟩ := hall i (by omega)
      rw [cells28] at h1
      obtain ⟨_, hlen, hcell⟩ := World.cells?_some h1
      obtain ⟨y0, y1, y2, k, hxy, _, u0, u1, u2⟩ := trod_struct3 Tryz.underlying55 h2
      match cs', hlen with
      | [v0, v1, v2], _ =>
        simp only [cells9, cells26, cells25, List.drop, List.take] at u0 u1 u2
        obtain ⟨s0, e0, d0, z0⟩ := DataW.trod_string Tryz.underlying9 u0
        simp only [List.cons.injEq, and_true] at e0
        subst e0
        obtain ⟨lo1, hS⟩ := open_names u1
        obtain ⟨lf, hF, hZ⟩ := open_fields u2
        have c0 := hcell 0 (by omega)
        have c1 := hcell 1 (by omega)
        have c2 := hcell 2 (by omega)
        rw [Addr.add_lit, Addr.add_lit] at c0 c1 c2
        refine ⟨⟨s0.toList, lo1, lf, v1, v2⟩, ⟨?_, by simpa using c1, by simpa using c2⟩, ⟨hS, hF⟩, ?_, hZ⟩
        · show _ = some (Value.string (bs s0.toList))
          rw [bs_self]; simpa using c0
        · show s0.toList.length ≤ maxLen
          rw [Lib.toList_data, ← size_len]; exact z0
    haveI : Inhabited Kd := ⟨⟨[], [], [], .nilIface, .nilIface⟩⟩
    obtain ⟨q, hq⟩ := choose_lt each
    refine ⟨(List.range len).map q, .inr ⟨bk, off, cap, by simp, by simpa using hl, hm, hlt, fun k x hx => ?_⟩, fun x hx => ?_, fun x hx => ?_⟩
    · rw [List.getElem?_map] at hx
      obtain ⟨k', h1, h2⟩ := Option.map_eq_some_iff.1 hx
      obtain ⟨h3, h4⟩ := List.getElem?_eq_some_iff.1 h1
      simp at h3 h4
      subst h4; subst h2
      exact (hq k h3).1
    · obtain ⟨i, hi, rfl⟩ := List.mem_map.1 hx
      exact (hq i (List.mem_range.1 hi)).2.1
    · obtain ⟨i, hi, rfl⟩ := List.mem_map.1 hx
      exact (hq i (List.mem_range.1 hi)).2.2
theorem trod_five {W : World} {b : Nat} {sp : Nat → Bool} {hd : Bool} {t : TypeId} {f0 f1 f2 f3 f4 : Field} {fuel : Nat} {cs : List Value} {x : DataW H × List MemPlace} (ht : Tryz.prog.underlying t = some (.struct #[f0, f1, f2, f3, f4])) (h : DataW.trod enc Tryz.prog W b sp hd fuel t cs = some x) :
    ∃ y0 y1 y2 y3 y4 n, DataW.trod enc Tryz.prog W b sp hd n f0.type ((cs.drop f0.offset).take (Tryz.prog.cellsOf f0.type)) = some y0 ∧ DataW.trod enc Tryz.prog W b sp hd n f1.type ((cs.drop f1.offset).take (Tryz.prog.cellsOf f1.type)) = some y1 ∧ DataW.trod enc Tryz.prog W b sp hd n f2.type ((cs.drop f2.offset).take (Tryz.prog.cellsOf f2.type)) = some y2 ∧ DataW.trod enc Tryz.prog W b sp hd n f3.type ((cs.drop f3.offset).take (Tryz.prog.cellsOf f3.type)) = some y3 ∧ DataW.trod enc Tryz.prog W b sp hd n f4.type ((cs.drop f4.offset).take (Tryz.prog.cellsOf f4.type)) = some y4 := by
  obtain ⟨xs, n, _, _, _, hxl, hf⟩ := DataW.trod_struct ht h
  match xs, hxl with
  | [y0, y1, y2, y3, y4], _ => exact ⟨y0, y1, y2, y3, y4, n, hf 0 f0 rfl, hf 1 f1 rfl, hf 2 f2 rfl, hf 3 f3 rfl, hf 4 f4 rfl⟩
set_option maxRecDepth 100000 in
theorem open_bonds {W : World} {r : Reach} {b0 b : Nat} {sp : Nat → Bool} {hd : Bool} {v : Value} {d : DataW H} {p : List MemPlace} (hv : Value.okWide Tryz.prog W r b0 23 v) (h : DataW.Trod enc Tryz.prog W b sp hd 23 v d p) :
    ∃ L, IsB W v L ∧ SzB L := by
  obtain ⟨a, len, cap, rfl⟩ := okWide_slice Tryz.underlying23 hv
  obtain ⟨fuel, hf⟩ := h
  have hf' : DataW.trod enc Tryz.prog W b sp hd fuel 23 [.slice a len cap] = some (d, p) := by simpa [Value.cells] using hf
  rcases open_slice Tryz.underlying23 hf' with ⟨hc, _⟩ | ⟨a', len', cap', m, n, D, Pl, hc, hb, hl, hm, hmm, _, hall⟩
  · simp only [List.cons.injEq, and_true] at hc
    exact ⟨[], .inl ⟨hc, rfl⟩, fun q hq => by simp at hq⟩
  · simp only [List.cons.injEq, and_true, Value.slice.injEq] at hc
    obtain ⟨rfl, rfl, rfl⟩ := hc
    have hlm : len ≤ m := by rw [hmm]; split <;> omega
    simp only [Value.okWide, Tryz.underlying23, Cell.okWide, Cell.ok] at hv
    obtain ⟨_, _, _, hsp, row, cells, hsh, _⟩ := hv
    have hlt := shape_lt hsh
    obtain ⟨bk, off, spot⟩ := a'
    simp only at hsp hlt
    subst hsp
    have each : ∀ i, i < len → ∃ q : Bd, (W.cell? ⟨bk, off + i * 5, none⟩ = some (.string (bs q.nm)) ∧ W.cell? ⟨bk, off + i * 5 + 1, none⟩ = some (.string (bs q.fr)) ∧ W.cell? ⟨bk, off + i * 5 + 2, none⟩ = some (.string (bs q.tt)) ∧ W.cell? ⟨bk, off + i * 5 + 3, none⟩ = some (.int .i64 q.mn) ∧ W.cell? ⟨bk, off + i * 5 + 4, none⟩ = some (.int .i64 q.mx)) ∧ q.nm.length ≤ maxLen := by
      intro i hi
      obtain ⟨cs', h1, h2⟩ := hall i (by omega)
      rw [cells44] at h1
      obtain ⟨_, hlen, hcell⟩ := World.cells?_some h1
      obtain ⟨y0, y1, y2, y3, y4, k, u0, u1, u2, u3, u4⟩ := trod_five Tryz.underlying40 h2
      match cs', hlen with
      | [v0, v1, v2, v3, v4], _ =>
        simp only [cells9, cells3, List.drop, List.take] at u0 u1 u2 u3 u4
        obtain ⟨s0, e0, d0, z0⟩ := DataW.trod_string Tryz.underlying9 u0
        obtain ⟨s1, e1, d1, z1⟩ := DataW.trod_string Tryz.underlying9 u1
        obtain ⟨s2, e2, d2, z2⟩ := DataW.trod_string Tryz.underlying9 u2
        obtain ⟨q3, e3, d3, _⟩ := DataW.trod_int Tryz.underlying3 u3
        obtain ⟨q4, e4, d4, _⟩ := DataW.trod_int Tryz.underlying3 u4
        simp only [List.cons.injEq, and_true] at e0 e1 e2 e3 e4
        subst e0; subst e1; subst e2; subst e3; subst e4
        have c0 := hcell 0 (by omega)
        have c1 := hcell 1 (by omega)
        have c2 := hcell 2 (by omega)
        have c3 := hcell 3 (by omega)
        have c4 := hcell 4 (by omega)
        rw [Addr.add_lit, Addr.add_lit] at c0 c1 c2 c3 c4
        refine ⟨⟨s0.toList, s1.toList, s2.toList, q3, q4⟩, ⟨?_, ?_, ?_, by simpa using c3, by simpa using c4⟩, ?_⟩
        · show _ = some (Value.string (bs s0.toList))
          rw [bs_self]; simpa using c0
        · show _ = some (Value.string (bs s1.toList))
          rw [bs_self]; simpa using c1
        · show _ = some (Value.string (bs s2.toList))
          rw [bs_self]; simpa using c2
        · show s0.toList.length ≤ maxLen
          rw [Lib.toList_data, ← size_len]; exact z0
    haveI : Inhabited Bd := ⟨⟨[], [], [], 0, 0⟩⟩
    obtain ⟨q, hq⟩ := choose_lt each
    refine ⟨(List.range len).map q, .inr ⟨bk, off, cap, by simp, by simpa using hl, hm, hlt, fun k x hx => ?_⟩, fun x hx => ?_⟩
    · rw [List.getElem?_map] at hx
      obtain ⟨k', h1, h2⟩ := Option.map_eq_some_iff.1 hx
      obtain ⟨h3, h4⟩ := List.getElem?_eq_some_iff.1 h1
      simp at h3 h4
      subst h4; subst h2
      exact (hq k h3).1
    · obtain ⟨i, hi, rfl⟩ := List.mem_map.1 hx
      exact (hq i (List.mem_range.1 hi)).2
set_option maxRecDepth 100000 in
theorem open_schema {W : World} {r : Reach} {b0 b : Nat} {sp : Nat → Bool} {hd : Bool} {v : Value} {d : DataW H} {p : List MemPlace} (hv : Value.okWide Tryz.prog W r b0 25 v) (h : DataW.Trod enc Tryz.prog W b sp hd 25 v d p) :
    ∃ vk vb L B, v = .agg #[vk, vb] ∧ IsK W vk L ∧ Parts W L ∧ SzK L ∧ IsB W vb B ∧ SzB B := by
  simp only [Value.okWide, Tryz.underlying25] at hv
  obtain ⟨cs, rfl, hcs, ts, hts, _, hrow⟩ := hv
  rw [cellsS25] at hcs
  obtain rfl := Option.some.inj (types25.symm.trans hts)
  obtain ⟨l⟩ := cs
  match l, hcs with
  | [vk, vb], _ =>
    obtain ⟨t0, e0, w0⟩ := hrow 0 vk rfl
    obtain ⟨t1, e1, w1⟩ := hrow 1 vb rfl
    obtain rfl : 22 = t0 := by simpa using e0
    obtain rfl : 23 = t1 := by simpa using e1
    have o0 : Value.okWide Tryz.prog W r b0 22 vk := by simp only [Value.okWide, Tryz.underlying22]; exact w0
    have o1 : Value.okWide Tryz.prog W r b0 23 vb := by simp only [Value.okWide, Tryz.underlying23]; exact w1
    obtain ⟨a0, l0, c0, rfl⟩ := okWide_slice Tryz.underlying22 o0
    obtain ⟨a1, l1, c1, rfl⟩ := okWide_slice Tryz.underlying23 o1
    obtain ⟨fuel, hf⟩ := h
    have hf' : DataW.trod enc Tryz.prog W b sp hd fuel 25 [.slice a0 l0 c0, .slice a1 l1 c1] = some (d, p) := by simpa [Value.cells] using hf
    obtain ⟨y0, y1, k, _, _, u0, u1⟩ := trod_struct2 Tryz.underlying25 hf'
    simp only [cells22, cells23, List.drop, List.take] at u0 u1
    obtain ⟨L, h1, h2, h3⟩ := open_kinds (d := y0.1) (p := y0.2) o0 ⟨k, by simpa [Value.cells] using u0⟩
    obtain ⟨B, h4, h5⟩ := open_bonds (d := y1.1) (p := y1.2) o1 ⟨k, by simpa [Value.cells] using u1⟩
    exact ⟨_, _, L, B, rfl, h1, h2, h3, h4, h5⟩
end
theorem twNamed : Tryz.prog.globalNamed "kinshape/schema.typeWords" = some 1 := by kernel_rfl
theorem twType : (Tryz.prog.globals[1]?).map (·.type) = some 144 := by kernel_rfl
theorem cells64 : Tryz.prog.cellsOf 144 = 4 := by kernel_rfl
theorem cells_words {H : Type} {enc : TypeId × Value → H} {w : World} {base : Nat} {sp : Nat → Bool} {held : Bool} {fuel : Nat} {cs : List Value} {ls : List Nm} {p : List MemPlace} (h : DataW.trod enc Tryz.prog w base sp held fuel 144 cs = some (.agg (ls.map fun l => .lit (.string l)), p)) : ∀ i l, i < 4 → ls[i]? = some l → cs[i]? = some (.string (bs l)) := by
  cases fuel with
  | zero => simp [DataW.trod] at h
  | succ fuel =>
    simp only [DataW.trod, Tryz.underlying144, cells9, cells64, Nat.mul_one] at h
    split at h
    · obtain ⟨xs, hm, hx⟩ := Option.map_eq_some_iff.1 h
      have hxs : xs.map (·.1) = ls.map fun l => (DataW.lit (.string l) : DataW H) := by
        have := congrArg Prod.fst hx
        simpa using this
      intro i l hi hl
      obtain ⟨y, hy, hf⟩ := Lib.mapM_at hm i i (by simp [hi])
      obtain ⟨s, hc, rfl, _⟩ := DataW.trod_string Tryz.underlying9 hf
      have h1 : cs[i]? = some (.string s) := by
        have := congrArg (·[0]?) hc
        simpa [List.getElem?_take, List.getElem?_drop] using this
      have h2 : (xs.map (·.1))[i]? = some (DataW.lit (.string s.data.toList) : DataW H) := by simp [hy]
      rw [hxs, List.getElem?_map, hl] at h2
      simp only [Option.map_some, Option.some.injEq, DataW.lit.injEq, Lit.string.injEq] at h2
      rw [h1, h2]
      rfl
    · cases h
theorem tw_of {W : World} {rest : List (String × DataW Unit)} (h : laidMet Tryz.prog (("kinshape/schema.typeWords", Rows.laid_kinshape_schema_typeWords) :: rest) W) : TW W := by
  obtain ⟨ps, ⟨g', t', cs, fuel, p, q, hg', ht', hvar, hd, _, _⟩, _⟩ := h
  obtain rfl := Option.some.inj (twNamed.symm.trans hg')
  obtain rfl := Option.some.inj (twType.symm.trans ht')
  have hw := cells_words (ls := [[], [105, 110, 116], [98, 111, 111, 108], [116, 101, 120, 116]]) hd
  refine ⟨?_, ?_, ?_⟩
  · have := World.var?_cell twNamed hvar 1
    rw [this]; simpa [bs] using hw 1 _ (by omega) rfl
  · have := World.var?_cell twNamed hvar 2
    rw [this]; simpa [bs] using hw 2 _ (by omega) rfl
  · have := World.var?_cell twNamed hvar 3
    rw [this]; simpa [bs] using hw 3 _ (by omega) rfl
end Go.Proofs.YtgjlonilbhlneaaGreatDoor
