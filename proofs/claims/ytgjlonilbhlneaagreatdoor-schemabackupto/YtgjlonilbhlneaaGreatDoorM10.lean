/-
  What the library's strings.Builder does with a string: copyCheck and WriteString, walked at this program.
-/
import Derived.Test.YtgjlonilbhlneaaGreatDoorM09
import Derived.WalkKit
import Derived.BigCall
import Derived.Shelf.Strings.BuilderK
import Derived.Test.YtgjlonilbhlneaaGreatDoorM08
import Derived.Laws.Concat
import Derived.Deep.RegionHeld3
namespace Go.Proofs.YtgjlonilbhlneaaGreatDoor
open Go.Shelf Go.RowKit

theorem Tryz.infoByte : (Tryz.prog.info? 5).map (fun i => (i.zero, i.size, i.bytes)) = some (some (.int .u8 0), 1, 1) := Tryz.Builder_Extra_169.infoByte

set_option maxHeartbeats 1000000 in
set_option maxRecDepth 100000 in
theorem copyCheck_used (b : Nat) (w : World) (h0 : w.cell? ⟨b, 0, none⟩ = some (.pointer (some ⟨b, 0, none⟩))) :
    Calls Tryz.prog 49 #[.pointer (some ⟨b, 0, none⟩)] w fun e w' => e = .returned (.tuple #[]) ∧ w' = w := by
  obtain ⟨j, hj, _⟩ := Option.map_eq_some_iff.1 Tryz.Builder_Extra_169.sizeBuilder
  go_enter Tryz.func49, Tryz.ntmps49
  go_wp2
  rw [Lib.run_neq_ptr_same w _ Tryz.underlying64 hj]
  go_wp2
  go_end0
  exact ⟨rfl, rfl⟩

set_option maxHeartbeats 1000000 in
set_option maxRecDepth 100000 in
theorem copyCheck_fresh (b : Nat) (w : World) (h0 : w.cell? ⟨b, 0, none⟩ = some (.pointer none)) (hsh : w.shape? b = some (67, 2)) (hfz : w.frozen? ⟨b, 0, none⟩ = false) :
    Calls Tryz.prog 49 #[.pointer (some ⟨b, 0, none⟩)] w fun e w' => e = .returned (.tuple #[]) ∧ w' = w.setCell ⟨b, 0, none⟩ (.pointer (some ⟨b, 0, none⟩)) := by
  obtain ⟨j, hj, hjs⟩ := Option.map_eq_some_iff.1 Tryz.Builder_Extra_169.sizeBuilder
  go_enter Tryz.func49, Tryz.ntmps49
  go_wp2
  rw [Lib.run_to_unsafe w ⟨b, 0, none⟩ Tryz.underlying64 Tryz.underlying129 hj (by rw [hjs]; decide) hsh (Nat.zero_lt_succ 1)]
  simp only [Result.andThen]
  rw [Oper.upon_value]
  go_wp2
  rw [run_callFunc_extern Tryz.func79 (by kernel_rfl) (by kernel_rfl) (by kernel_rfl) (e := Extern.AbiNoEscape.same) (by kernel_rfl)]
  rw [Lib.run_noEscape]
  simp only [Result.andThen]
  rw [Oper.upon_value]
  go_wp2
  rw [Lib.run_from_unsafe w ⟨b, 0, none⟩ Tryz.underlying129 Tryz.underlying64 hj hsh Tryz.Builder_Extra_169.liesBuilder]
  simp only [Result.andThen]
  rw [Oper.upon_value]
  go_wp2
  go_end0
  exact ⟨rfl, rfl⟩

theorem copyCheck_k (B b : Nat) (bs : List Value) (w : World) (h : Lib.IsBuilderF 67 5 B b bs w) :
    Calls Tryz.prog 49 #[.pointer (some ⟨b, 0, none⟩)] w fun e w' => e = .returned (.tuple #[]) ∧ (Lib.BuilderAtF 67 5 B b (.pointer (some ⟨b, 0, none⟩)) bs w' ∧ Below B w w' ∧ Lib.OthersKept 5 (some b) w w') := by
  rcases h with h | h
  · refine (copyCheck_fresh b w h.cell0 h.shape h.frozen0).mono ?_
    rintro e w' ⟨rfl, rfl⟩
    exact ⟨rfl, h.used _, (Below.refl B w).setCell (p := ⟨b, 0, none⟩) h.1 _, (Lib.OthersKept.refl _ _ w).setCell ⟨b, 0, none⟩ rfl _⟩
  · refine (copyCheck_used b w h.cell0).mono ?_
    rintro e w' ⟨rfl, rfl⟩
    exact ⟨rfl, h, Below.refl B _, Lib.OthersKept.refl _ _ _⟩

set_option maxHeartbeats 2000000 in
set_option maxRecDepth 100000 in
theorem writeString_k (B b : Nat) (bs : List Value) (s : ByteArray) (w : World) (h : Lib.IsBuilderF 67 5 B b bs w) (hlen : bs.length + s.size ≤ 140737488355328) (hBw : B ≤ w.heap.size) :
    Calls Tryz.prog 25 #[.pointer (some ⟨b, 0, none⟩), .string s] w fun e w' => e = .returned (.tuple #[.int .i64 s.size, .nilIface]) ∧ (Lib.BuilderAtF 67 5 B b (.pointer (some ⟨b, 0, none⟩)) (bs ++ Lib.strCells s) w' ∧ Below B w w' ∧ Lib.OthersKept 5 (some b) w w') := by
  obtain ⟨i0, hi, hz0, hz1, hz2⟩ := info_parts Tryz.infoByte
  go_enter Tryz.func25, Tryz.ntmps25
  go_wp2_with (go_at_call 49; refine (copyCheck_k B b bs _ h).mono ?_)
  rintro e w1 ⟨rfl, h1, hb1, hk1⟩
  obtain ⟨hB, v, hbk, hown, hne⟩ := h1
  have c0 : w1.cell? ⟨b, 0, none⟩ = some (.pointer (some ⟨b, 0, none⟩)) := by rw [Lib.cell_of_heap hbk]; rfl
  have c1 : w1.cell? ⟨b, 1, none⟩ = some v := by rw [Lib.cell_of_heap hbk]; rfl
  go_wp2_with (at_builtin; refine Lib.wpList_append_own_stringF _ rfl _ _ 65 9 rfl B 5 i0 Tryz.underlying65 Tryz.underlying9 hi hz0 hz1 hz2 _ _ _ rfl hown s rfl ?c3 ?c4 ?c5 ?_)
  case c3 => unfold maxLen; omega
  case c4 => omega
  case c5 => have := hb1.size; omega
  intro v' w2 hown' hgrow _
  have hlt : b < w1.heap.size := by
    rcases Nat.lt_or_ge b w1.heap.size with h' | h'
    · exact h'
    · simp [Array.getElem?_eq_none h'] at hbk
  have hb2 : w2.heap[b]? = some (.cells #[.pointer (some ⟨b, 0, none⟩), v] 67 (0, 0)) := by
    rw [hgrow.block b hlt (fun e => hne e.symm)]
    exact hbk
  have d0 : w2.cell? ⟨b, 0, none⟩ = some (.pointer (some ⟨b, 0, none⟩)) := by rw [Lib.cell_of_heap hb2]; rfl
  have d1 : w2.cell? ⟨b, 1, none⟩ = some v := by rw [Lib.cell_of_heap hb2]; rfl
  have f1 : w2.frozen? ⟨b, 1, none⟩ = false := Lib.frozen_of_heap hb2 1
  obtain ⟨ao, n', cap, rfl⟩ : ∃ ao n' cap, v' = .slice ao n' cap := by
    rcases hown'.2 with ⟨hv, _⟩ | ⟨g, cap, cur, fz, hv, _⟩
    · exact ⟨_, _, _, hv⟩
    · exact ⟨_, _, _, hv⟩
  go_wp2
  go_ret2
  refine ⟨rfl, ?_, ?_, (hk1.grown hgrow (Lib.ownsRowF_kind hown)).setCell ⟨b, 1, none⟩ rfl _⟩
  · exact Lib.BuilderAtF.put (T := 67) (e := 5) hB hb2 (bs' := bs ++ Lib.strCells s) (by simpa [Lib.strCells_length] using hown') (by decide)
  · exact (hb1.grown hgrow (by have := hb1.size; omega) (fun k hk => (hown.lt k hk).1)).setCell (p := ⟨b, 1, none⟩) hB _
end Go.Proofs.YtgjlonilbhlneaaGreatDoor

/-
  The walks of schema.printField, printBond and lineOf.
-/
namespace Go.Proofs.YtgjlonilbhlneaaGreatDoor
open Go.RowKit
set_option linter.unusedVariables false
set_option linter.unusedSimpArgs false

def TW (w : World) : Prop := w.cell? ⟨1, 1, none⟩ = some (.string ⟨#[105, 110, 116]⟩) ∧ w.cell? ⟨1, 2, none⟩ = some (.string ⟨#[98, 111, 111, 108]⟩) ∧ w.cell? ⟨1, 3, none⟩ = some (.string ⟨#[116, 101, 120, 116]⟩)
theorem TW.pos {w : World} (h : TW w) : 1 < w.heap.size := World.block_lt_of_cell? w _ h.1
theorem TW.on {w w' : World} (h : TW w) (hB : Below w.heap.size w w') : TW w' :=
  ⟨(hB.cell (p := ⟨1, 1, none⟩) h.pos).trans h.1, (hB.cell (p := ⟨1, 2, none⟩) h.pos).trans h.2.1, (hB.cell (p := ⟨1, 3, none⟩) h.pos).trans h.2.2⟩
theorem cat (x y : Nm) (hx : x.length ≤ 8388608) (hy : y.length ≤ 8388608) (w : World) : (Op.stringOp .add (bs x) (bs y)).run Tryz.prog w = .ok (.string (bs (x ++ y))) w := run_string_add_lists w x y (by omega) (by omega)
theorem name_len {l : Nm} (h : nErr l = 0) : l.length ≤ 8 := by
  unfold nErr at h
  split at h
  · exact absurd h (by decide)
  · split at h
    · exact absurd h (by decide)
    · omega
def markW (f : Fd) : Nm := if f.key = true then [42] else if f.must = true then [33] else []

set_option maxHeartbeats 4000000 in
set_option maxRecDepth 100000 in
theorem printField_w (tw : Nm) (ti : Int) (f : Nm) (must key : Bool) (w : World) (h0 : 1 < w.heap.size) (hti : ti = 1 ∨ ti = 2 ∨ ti = 3) (htw : w.cell? ⟨1, ti.toNat, none⟩ = some (.string (bs tw))) (htl : tw.length ≤ 4) (hn : f.length ≤ 8) :
    Calls Tryz.prog 51 #[.agg #[.string (bs f), .int .i64 ti, .bool must, .bool key]] w fun e w' => e = .returned (.string (bs (f ++ [58] ++ tw ++ markW ⟨f, ti, must, key⟩))) ∧ Below w.heap.size w w' := by
  have a1 : ∀ w, (Op.stringOp .add (bs f) ⟨#[58]⟩).run Tryz.prog w = .ok (.string (bs (f ++ [58]))) w := fun w => cat f [58] (by omega) (by decide) w
  have a2 : ∀ w, (Op.stringOp .add (bs (f ++ [58])) (bs tw)).run Tryz.prog w = .ok (.string (bs (f ++ [58] ++ tw))) w := fun w => cat (f ++ [58]) tw (by simp; omega) (by omega) w
  have a3 : ∀ w, (Op.stringOp .add (bs (f ++ [58] ++ tw)) ⟨#[42]⟩).run Tryz.prog w = .ok (.string (bs (f ++ [58] ++ tw ++ [42]))) w := fun w => cat (f ++ [58] ++ tw) [42] (by simp; omega) (by decide) w
  have a4 : ∀ w, (Op.stringOp .add (bs (f ++ [58] ++ tw)) ⟨#[33]⟩).run Tryz.prog w = .ok (.string (bs (f ++ [58] ++ tw ++ [33]))) w := fun w => cat (f ++ [58] ++ tw) [33] (by simp; omega) (by decide) w
  have hne : ¬ 1 = w.heap.size := by omega
  obtain ⟨x1, hx1⟩ : ∃ x, x = f ++ [58] := ⟨_, rfl⟩
  rw [← hx1] at a1 a2 a3 a4 ⊢
  obtain ⟨x2, hx2⟩ : ∃ x, x = x1 ++ tw := ⟨_, rfl⟩
  rw [← hx2] at a2 a3 a4 ⊢
  obtain ⟨x3, hx3⟩ : ∃ x, x = x2 ++ [42] := ⟨_, rfl⟩
  rw [← hx3] at a3
  obtain ⟨x4, hx4⟩ : ∃ x, x = x2 ++ [33] := ⟨_, rfl⟩
  rw [← hx4] at a4
  have HX3 : Hid (x3 = x2 ++ [42]) := hx3
  have HX4 : Hid (x4 = x2 ++ [33]) := hx4
  have hB : Below w.heap.size w (w.alloc (.cells #[.string (bs f), .int .i64 ti, .bool must, .bool key] 52)) := b_alloc (Below.refl _ _) (Nat.le_refl _) _
  clear hx1 hx2 hx3 hx4
  rcases hti with rfl | rfl | rfl
  all_goals
    have ht1 := htw
    simp only [show (1 : Int).toNat = 1 from rfl, show (2 : Int).toNat = 2 from rfl, show (3 : Int).toNat = 3 from rfl] at ht1
    clear htw
    cases key
    · cases must
      · go_enter Tryz.func51, Tryz.ntmps51
        go_wp2_with fail
        go_quiet (fail)
        go_wp2
        go_ret
        exact ⟨ret_v (by simp [markW]), b_drewN hB _⟩
      · go_enter Tryz.func51, Tryz.ntmps51
        go_wp2_with fail
        go_quiet (fail)
        go_wp2
        go_ret
        exact ⟨ret_v (by simp [markW, HX4.out]), b_drewN hB _⟩
    · go_enter Tryz.func51, Tryz.ntmps51
      go_wp2_with fail
      go_quiet (fail)
      go_wp2
      go_ret
      exact ⟨ret_v (by simp [markW, HX3.out]), b_drewN hB _⟩
theorem printField_any (f : Fd) (w : World) (hT : TW w) (ht : f.t = 1 ∨ f.t = 2 ∨ f.t = 3) (hn : f.nm.length ≤ 8) :
    Calls Tryz.prog 51 #[f.one] w fun e w' => e = .returned (.string (bs (fText f))) ∧ Below w.heap.size w w' := by
  obtain ⟨nm, t, must, key⟩ := f
  have ht' : t = 1 ∨ t = 2 ∨ t = 3 := ht
  rcases ht' with rfl | rfl | rfl
  · exact printField_w [105, 110, 116] 1 nm must key w hT.pos (.inl rfl) hT.1 (by decide) hn
  · exact printField_w [98, 111, 111, 108] 2 nm must key w hT.pos (.inr (.inl rfl)) hT.2.1 (by decide) hn
  · exact printField_w [116, 101, 120, 116] 3 nm must key w hT.pos (.inr (.inr rfl)) hT.2.2 (by decide) hn

set_option maxHeartbeats 2000000 in
theorem lineOf_any {v : Value} {ws : List Nm} {w : World} (h : IsS w v ws) (h0 : 0 < ws.length) (hl : ws.length ≤ 1000) (hj : (Lib.join ws [32]).length ≤ 8388608) :
    Calls Tryz.prog 26 #[v] w fun e w' => e = .returned (.string (bs (lineL ws))) ∧ Below w.heap.size w w' := by
  rcases h with ⟨_, _, _, rfl, _⟩ | ⟨b, off, cap, rfl, hc, hm, hb, hL⟩
  · simp at h0
  · have e1 : (ws.map bs).map (·.data.toList) = ws := by
      rw [List.map_map]
      have : ((fun x : ByteArray => x.data.toList) ∘ bs) = id := by funext l; simp
      rw [this, List.map_id]
    have cj := Tryz.strings_Join b off cap (ws.map bs) ⟨#[32]⟩ w (fun j x hx => by
        rw [List.getElem?_map] at hx
        obtain ⟨n, h1, rfl⟩ := Option.map_eq_some_iff.1 hx
        exact hL j n h1) hb (by simp; omega) (by simpa using hc) (by rw [e1]; show (Lib.join ws [32]).length ≤ _; omega)
    rw [e1, List.length_map] at cj
    have a1 : ∀ w, (Op.stringOp .add (bs (Lib.join ws [32])) ⟨#[10]⟩).run Tryz.prog w = .ok (.string (bs (Lib.join ws [32] ++ [10]))) w := fun w => cat (Lib.join ws [32]) [10] hj (by decide) w
    have HL : Hid (Lib.join ws [32] ++ [10] = lineL ws) := rfl
    have cj2 : Calls Tryz.prog 50 #[.slice (some ⟨b, off, none⟩) ws.length cap, .string ⟨#[32]⟩] w fun e w' => e = .returned (.string (bs (Lib.join ws [32]))) ∧ Below w.heap.size w w' := cj
    generalize Lib.join ws [32] = J at cj2 a1 HL
    clear cj e1 hL
    obtain ⟨J2, hJ2⟩ : ∃ x, x = J ++ [10] := ⟨_, rfl⟩
    rw [← hJ2] at a1 HL
    clear hJ2
    go_enter Tryz.func26, Tryz.ntmps26
    go_wp2_with (go_at_call 50; refine cj2.mono ?_; rintro e W1 ⟨rfl, hB1⟩)
    go_ret
    exact ⟨ret_v (by rw [← HL.out]; rfl), hB1⟩
end Go.Proofs.YtgjlonilbhlneaaGreatDoor

/-
  The walk of schema.printBond.
-/
namespace Go.Proofs.YtgjlonilbhlneaaGreatDoor
open Go.RowKit
set_option linter.unusedVariables false
set_option linter.unusedSimpArgs false

theorem itoa_nat (i : Nat) : Lib.itoa (i : Int) = Lib.decDigits i := by
  unfold Lib.itoa; rw [if_neg (by omega)]; simp
theorem six_isS (w : World) (a b c d e f : Nm) : IsS (w.alloc (.cells #[.string (bs a), .string (bs b), .string (bs c), .string (bs d), .string (bs e), .string (bs f)] 9)) (.slice (some ⟨w.heap.size, 0, none⟩) 6 6) [a, b, c, d, e, f] := by
  refine .inr ⟨w.heap.size, 0, 6, rfl, by simp, by unfold maxLen; omega, by simp, ?_⟩
  intro k n hn
  match k, hn with
  | 0, hn => obtain rfl := Option.some.inj hn; simp
  | 1, hn => obtain rfl := Option.some.inj hn; simp
  | 2, hn => obtain rfl := Option.some.inj hn; simp
  | 3, hn => obtain rfl := Option.some.inj hn; simp
  | 4, hn => obtain rfl := Option.some.inj hn; simp
  | 5, hn => obtain rfl := Option.some.inj hn; simp
  | k + 6, hn => simp at hn
theorem isS_drewN {w : World} {v : Value} {l : List Nm} (h : IsS w v l) (n : Nat) : IsS (w.drewN n) v l := h.on (b_drewN (Below.refl _ _) n)

set_option maxHeartbeats 4000000 in
set_option maxRecDepth 100000 in
theorem printBond_w (nm fr tt : Nm) (i : Nat) (mx : Int) (w : World) (hi : i < 100) (hm : mx = -1 ∨ ∃ j : Nat, mx = (j : Int) ∧ j < 100) :
    Calls Tryz.prog 28 #[.agg #[.string (bs nm), .string (bs fr), .string (bs tt), .int .i64 (i : Int), .int .i64 mx]] w fun e w' => ∃ v, e = .returned v ∧ IsS w' v [[98, 111, 110, 100], nm, fr, tt, Lib.itoa (i : Int), mxW mx] ∧ Below w.heap.size w w' := by
  have ci : ∀ w, Calls Tryz.prog 52 #[.int .i64 (i : Int)] w fun e w' => e = .returned (.string (bs (Lib.itoa (i : Int)))) ∧ w' = w := fun w => by
    rw [itoa_nat]; exact Tryz.strconv_Itoa_small i hi w
  obtain ⟨di, hdi⟩ : ∃ d, d = Lib.itoa (i : Int) := ⟨_, rfl⟩
  rw [← hdi] at ci ⊢
  have hB : Below w.heap.size w (w.alloc (.cells #[.string (bs nm), .string (bs fr), .string (bs tt), .int .i64 (i : Int), .int .i64 mx] 40)) := b_alloc (Below.refl _ _) (Nat.le_refl _) _
  clear hdi hi
  rcases hm with rfl | ⟨j, rfl, hj⟩
  · have HS : Hid (IsS (((w.alloc (.cells #[.string (bs nm), .string (bs fr), .string (bs tt), .int .i64 (i : Int), .int .i64 (-1)] 40)).alloc (.cells #[.string ⟨#[98, 111, 110, 100]⟩, .string (bs nm), .string (bs fr), .string (bs tt), .string (bs di), .string ⟨#[97, 110, 121]⟩] 9)).drew) (.slice (some ⟨w.heap.size + 1, 0, none⟩) 6 6) [[98, 111, 110, 100], nm, fr, tt, di, mxW (-1)]) := by
      have := six_isS (w.alloc (.cells #[.string (bs nm), .string (bs fr), .string (bs tt), .int .i64 (i : Int), .int .i64 (-1)] 40)) [98, 111, 110, 100] nm fr tt di [97, 110, 121]
      simp only [World.size_alloc] at this
      exact isS_drewN this 1
    go_enter Tryz.func28, Tryz.ntmps28
    go_wp2_with fail
    go_region_held3 (fun w' => w'.cell? ⟨w.heap.size, 0, none⟩ = some (.string (bs nm)) ∧ w'.cell? ⟨w.heap.size, 1, none⟩ = some (.string (bs fr)) ∧ w'.cell? ⟨w.heap.size, 2, none⟩ = some (.string (bs tt)) ∧ w'.cell? ⟨w.heap.size, 3, none⟩ = some (.int .i64 (i : Int))) (go_keep) (first | (go_at_call 52; refine (ci _).mono ?_; rintro e w' ⟨rfl, rfl⟩))
    all_goals
      go_wp2
      go_ret
      exact ⟨.slice (some ⟨w.heap.size + 1, 0, none⟩) 6 6, rfl, HS.out, b_drewN (b_alloc hB (Nat.le_refl _) _) 1⟩
  · have hne : ((j : Int) != -1) = true := by simp
    have cj : ∀ w, Calls Tryz.prog 52 #[.int .i64 (j : Int)] w fun e w' => e = .returned (.string (bs (Lib.itoa (j : Int)))) ∧ w' = w := fun w => by
      rw [itoa_nat]; exact Tryz.strconv_Itoa_small j hj w
    have hmx : mxW (j : Int) = Lib.itoa (j : Int) := by unfold mxW; rw [if_neg (by omega)]
    rw [hmx]
    obtain ⟨dj, hdj⟩ : ∃ d, d = Lib.itoa (j : Int) := ⟨_, rfl⟩
    rw [← hdj] at cj ⊢
    have HS : Hid (IsS (((w.alloc (.cells #[.string (bs nm), .string (bs fr), .string (bs tt), .int .i64 (i : Int), .int .i64 (j : Int)] 40)).alloc (.cells #[.string ⟨#[98, 111, 110, 100]⟩, .string (bs nm), .string (bs fr), .string (bs tt), .string (bs di), .string (bs dj)] 9)).drew) (.slice (some ⟨w.heap.size + 1, 0, none⟩) 6 6) [[98, 111, 110, 100], nm, fr, tt, di, dj]) := by
      have := six_isS (w.alloc (.cells #[.string (bs nm), .string (bs fr), .string (bs tt), .int .i64 (i : Int), .int .i64 (j : Int)] 40)) [98, 111, 110, 100] nm fr tt di dj
      simp only [World.size_alloc] at this
      exact isS_drewN this 1
    clear hdj hmx
    go_enter Tryz.func28, Tryz.ntmps28
    go_wp2_with (go_at_call 52; refine (cj _).mono ?_; rintro e w' ⟨rfl, rfl⟩)
    go_region_held3 (fun w' => w'.cell? ⟨w.heap.size, 0, none⟩ = some (.string (bs nm)) ∧ w'.cell? ⟨w.heap.size, 1, none⟩ = some (.string (bs fr)) ∧ w'.cell? ⟨w.heap.size, 2, none⟩ = some (.string (bs tt)) ∧ w'.cell? ⟨w.heap.size, 3, none⟩ = some (.int .i64 (i : Int))) (go_keep) (first | (go_at_call 52; refine (ci _).mono ?_; rintro e w' ⟨rfl, rfl⟩))
    all_goals
      go_wp2
      go_ret
      exact ⟨.slice (some ⟨w.heap.size + 1, 0, none⟩) 6 6, rfl, HS.out, b_drewN (b_alloc hB (Nat.le_refl _) _) 1⟩
theorem printBond_any (x : Bd) (w : World) (hr : inR x.mn x.mx = true) :
    Calls Tryz.prog 28 #[x.one] w fun e w' => ∃ v, e = .returned v ∧ IsS w' v (bWords x) ∧ Below w.heap.size w w' := by
  obtain ⟨nm, fr, tt, mn, mx⟩ := x
  obtain ⟨h1, h2, h3⟩ := inR_iff.1 hr
  simp only at h1 h2 h3
  obtain ⟨i, rfl⟩ : ∃ i : Nat, mn = (i : Int) := ⟨mn.toNat, by omega⟩
  refine printBond_w nm fr tt i mx w (by omega) ?_
  rcases h3 with h3 | ⟨h3, h4⟩
  · exact .inl h3
  · exact .inr ⟨mx.toNat, by omega, by omega⟩

end Go.Proofs.YtgjlonilbhlneaaGreatDoor
