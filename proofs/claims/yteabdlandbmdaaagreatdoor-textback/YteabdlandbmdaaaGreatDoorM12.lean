/-
  What the library's functions do that this program calls (strings, strings.Builder, strconv, unicode/utf8): the contracts laid at this program.
-/
import Derived.Test.YteabdlandbmdaaaGreatDoorM02
import Derived.Shelf.Small.Strs
import Derived.Shelf.Small.Wraps
import Derived.Shelf.Strings.Search1
import Derived.Shelf.Strings.Search2
import Derived.Shelf.Strings.Search3
import Derived.Test.YteabdlandbmdaaaGreatDoorM11
import Derived.Laws.Concat
import Derived.Shelf.Strings.SplitCore
namespace Go.Proofs
open Go.Shelf
def Tryz.lays137_ren : Go.Shelf.Ren := ⟨fun | 137 => 34 | 217 => 48 | 266 => 68 | n => n, fun | 9 => 9 | 5 => 5 | 3 => 3 | n => n, fun | n => n⟩
theorem Tryz.lays137 : Go.Proofs.Lays.n137 Tryz.prog Tryz.lays137_ren := {
  mixed := by kernel_rfl
  f137 := Tryz.func34.trans (congrArg some (by kernel_rfl))
  f217 := Tryz.func48.trans (congrArg some (by kernel_rfl))
  f266 := Tryz.func68.trans (congrArg some (by kernel_rfl))
  t3 := Tryz.underlying3
  a3 := Tryz.isAgg3
  z3 := Tryz.sizeOf3
  v3 := Tryz.zeroValue3
  t5 := Tryz.underlying5
  a5 := Tryz.isAgg5
  z5 := Tryz.sizeOf5
  v5 := Tryz.zeroValue5
  t9 := Tryz.underlying9
  a9 := Tryz.isAgg9
  z9 := Tryz.sizeOf9
  v9 := Tryz.zeroValue9 }
theorem Tryz.strings_IndexByte (s : ByteArray) (c : Int) (w : World) :
    Calls Tryz.prog 34 #[.string s, .int .u8 c] w fun e w' => e = .returned (.int .i64 (Lib.indexByte s.data.toList c.toNat.toUInt8)) ∧ w' = w := Any.strings_IndexByte Tryz.lays137 s c w
def Tryz.lays104_ren : Go.Shelf.Ren := ⟨fun | 104 => 8 | 211 => 19 | 207 => 35 | n => n, fun | 9 => 9 | 4 => 4 | 24 => 45 | 3 => 3 | n => n, fun | n => n⟩
theorem Tryz.lays104 : Go.Proofs.Lays.n104 Tryz.prog Tryz.lays104_ren := {
  mixed := by kernel_rfl
  f104 := Tryz.func8.trans (congrArg some (by kernel_rfl))
  f207 := Tryz.func35.trans (congrArg some (by kernel_rfl))
  f211 := Tryz.func19.trans (congrArg some (by kernel_rfl))
  t3 := Tryz.underlying3
  a3 := Tryz.isAgg3
  z3 := Tryz.sizeOf3
  v3 := Tryz.zeroValue3
  t4 := Tryz.underlying4
  a4 := Tryz.isAgg4
  z4 := Tryz.sizeOf4
  v4 := Tryz.zeroValue4
  t9 := Tryz.underlying9
  a9 := Tryz.isAgg9
  z9 := Tryz.sizeOf9
  v9 := Tryz.zeroValue9
  t24 := Tryz.underlying45
  a24 := Tryz.isAgg45
  z24 := Tryz.sizeOf45
  v24 := Tryz.zeroValue45 }
theorem Tryz.strings_CutSuffix (s p : ByteArray) (w : World) (hs : s.size ≤ 9223372036854775807) :
    Calls Tryz.prog 8 #[.string s, .string p] w fun e w' => e = .returned (.tuple #[.string ⟨(Lib.trimSuffix s.data.toList p.data.toList).toArray⟩, .bool (Lib.hasSuffix s.data.toList p.data.toList)]) ∧ w' = w := Any.strings_CutSuffix Tryz.lays104 s p w hs
def Tryz.lays143_ren : Go.Shelf.Ren := ⟨fun | 143 => 51 | 219 => 72 | 217 => 48 | 225 => 87 | 224 => 88 | 267 => 89 | 266 => 68 | 314 => 102 | n => n, fun | 9 => 9 | 3 => 3 | 4 => 4 | 5 => 5 | 46 => 132 | 146 => 145 | 51 => 130 | n => n, fun | 1 => 1 | n => n⟩
theorem Tryz.lays143 : Go.Proofs.Lays.n143 Tryz.prog Tryz.lays143_ren := {
  mixed := by kernel_rfl
  f143 := Tryz.func51.trans (congrArg some (by kernel_rfl))
  f217 := Tryz.func48.trans (congrArg some (by kernel_rfl))
  f219 := Tryz.func72.trans (congrArg some (by kernel_rfl))
  f224 := Tryz.func88.trans (congrArg some (by kernel_rfl))
  f225 := Tryz.func87.trans (congrArg some (by kernel_rfl))
  f266 := Tryz.func68.trans (congrArg some (by kernel_rfl))
  f267 := Tryz.func89.trans (congrArg some (by kernel_rfl))
  f314 := Tryz.func102.trans (congrArg some (by kernel_rfl))
  t3 := Tryz.underlying3
  a3 := Tryz.isAgg3
  z3 := Tryz.sizeOf3
  v3 := Tryz.zeroValue3
  t4 := Tryz.underlying4
  a4 := Tryz.isAgg4
  z4 := Tryz.sizeOf4
  v4 := Tryz.zeroValue4
  t5 := Tryz.underlying5
  a5 := Tryz.isAgg5
  z5 := Tryz.sizeOf5
  v5 := Tryz.zeroValue5
  t9 := Tryz.underlying9
  a9 := Tryz.isAgg9
  z9 := Tryz.sizeOf9
  v9 := Tryz.zeroValue9
  t46 := Tryz.underlying132
  a46 := Tryz.isAgg132
  z46 := Tryz.sizeOf132
  v46 := Tryz.zeroValue132
  t51 := Tryz.underlying130
  a51 := Tryz.isAgg130
  z51 := Tryz.sizeOf130
  v51 := Tryz.zeroValue130
  t146 := Tryz.underlying145
  a146 := Tryz.isAgg145
  z146 := Tryz.sizeOf145
  v146 := Tryz.zeroValue145
  g1 := by kernel_rfl }
theorem Tryz.strings_Index_one (s : ByteArray) (c : UInt8) (w : World) :
    Calls Tryz.prog 51 #[.string s, .string ⟨#[c]⟩] w fun e w' => e = .returned (.int .i64 (Lib.indexByte s.data.toList c)) ∧ w' = w := Any.strings_Index_one Tryz.lays143 s c w
end Go.Proofs

/-
  The walks of lines.Number and lines.Made.
-/
namespace Go.Proofs.YteabdlandbmdaaaGreatDoor
open Go.RowKit
set_option linter.unusedVariables false
set_option linter.unusedSimpArgs false

structure EV (w : World) : Prop where
  tb : Tab w
  es : ∃ te pe, w.cell? ⟨4, 0, none⟩ = some (.iface te pe)
  er : ∃ te pe, w.cell? ⟨5, 0, none⟩ = some (.iface te pe)
theorem EV.on {w w' : World} (h : EV w) (hB : Below w.heap.size w w') : EV w' := by
  obtain ⟨h1, ⟨a, b, h4⟩, ⟨c, d, h5⟩⟩ := h
  have l : ∀ {p v}, w.cell? p = some v → w'.cell? p = some v := fun {p v} hc => (hB.cell (World.block_lt_of_cell? w _ hc)).trans hc
  exact ⟨Lib.tabBelow_of_tabIs h1 w' hB, ⟨a, b, l h4⟩, ⟨c, d, l h5⟩⟩

theorem numN_ok {l : Nm} {v : Int} (h : Lib.atoiAll l = .ok v) : numN l = if (0 ≤ v ∧ v ≤ 9999) ∧ Lib.itoa v = l then some v else none := by unfold numN; rw [h]
theorem numN_syn {l : Nm} (h : Lib.atoiAll l = .«syntax») : numN l = none := by unfold numN; rw [h]
theorem numN_rng {l : Nm} (h : Lib.atoiAll l = .range) : numN l = none := by unfold numN; rw [h]
def numV (o : Option Int) : Value := .tuple #[.int .i64 (o.getD 0), .bool o.isSome]

set_option maxHeartbeats 4000000 in
set_option maxRecDepth 100000 in
theorem number_any (l : Nm) (w : World) (hl : l.length ≤ 281474976710656) (hE : EV w) :
    Calls Tryz.prog 37 #[.string (bs l), .int .i64 9999] w fun e w' => e = .returned (numV (numN l)) ∧ Below w.heap.size w w' := by
  have hsz : (bs l).size ≤ 281474976710656 := by rw [bs_size]; exact hl
  cases hA : Lib.atoiAll l with
  | ok v =>
    have c : Calls Tryz.prog 52 #[.string (bs l)] w fun e w' => e = .returned (.tuple #[.int .i64 v, .nilIface]) ∧ Below w.heap.size w w' := by
      refine (Tryz.strconv_Atoi_ok (bs l) (by omega) v (by rw [bs_data]; exact hA) w).mono ?_
      rintro e w' ⟨rfl, rfl | ⟨t, rfl⟩⟩
      · exact ⟨rfl, Below.refl _ _⟩
      · exact ⟨rfl, Lib.bytesWorld_below w 5 t⟩
    rw [numN_ok hA]
    by_cases hr : 0 ≤ v ∧ v ≤ 9999
    · obtain ⟨r1, r2⟩ := hr
      have ci : ∀ w1, Below w.heap.size w w1 → Calls Tryz.prog 14 #[.int .i64 v] w1 fun e w' => e = .returned (.string (bs (Lib.itoa v))) ∧ Below w1.heap.size w1 w' := fun w1 hB1 => by
        refine (Tryz.strconv_Itoa v (by omega) (by omega) w1 (hE.on hB1).tb).mono ?_
        rintro e w' ⟨rfl, k, os, rfl⟩
        exact ⟨rfl, Lib.below_grow _ _ (Nat.le_refl _) k os⟩
      have HQ : Hid ((if (0 ≤ v ∧ v ≤ 9999) ∧ Lib.itoa v = l then some v else none) = if (Lib.itoa v == l) = true then some v else none) := by
        show _ = _
        by_cases e : Lib.itoa v = l
        · rw [if_pos ⟨⟨r1, r2⟩, e⟩, if_pos (by simpa using e)]
        · rw [if_neg (fun h => e h.2), if_neg (by simpa using e)]
      rw [HQ.out]
      generalize Lib.itoa v = d at ci ⊢
      clear hA hE hl hsz HQ
      cases hq : d == l
      all_goals
        go_enter Tryz.func37, Tryz.ntmps37
        go_wp2_with (first | (go_at_call 52; refine c.mono ?_; rintro e W1 ⟨rfl, hB1⟩) | (go_at_call 14; refine (ci _ hB1).mono ?_; rintro e W2 ⟨rfl, hB2⟩))
        go_ret2
        exact ⟨rfl, hB1.trans (hB2.mono hB1.size)⟩
    · rw [if_neg (fun h => hr h.1)]
      have hv : v < 0 ∨ (0 ≤ v ∧ 9999 < v) := by omega
      clear hA hE hl hsz hr
      rcases hv with hv | ⟨hv, hv2⟩
      all_goals
        go_enter Tryz.func37, Tryz.ntmps37
        go_wp2_with (go_at_call 52; refine c.mono ?_; rintro e W1 ⟨rfl, hB1⟩)
        go_ret2
        exact ⟨rfl, hB1⟩
  | «syntax» =>
    obtain ⟨te, pe, hes⟩ := hE.es
    have c := Tryz.strconv_Atoi_syntax (bs l) hsz (by rw [bs_data]; exact hA) (.iface te pe) w hes (.inr ⟨te, pe, rfl⟩)
    rw [numN_syn hA]
    clear hA hE hl hsz hes
    go_enter Tryz.func37, Tryz.ntmps37
    go_wp2_with (go_at_call 52; refine c.mono ?_; rintro e W1 ⟨N, rfl, _, _, hB1⟩)
    go_ret2
    exact ⟨rfl, hB1⟩
  | range =>
    obtain ⟨te, pe, her⟩ := hE.er
    have c := Tryz.strconv_Atoi_range (bs l) hsz (by rw [bs_data]; exact hA) (.iface te pe) w her (.inr ⟨te, pe, rfl⟩)
    rw [bs_data] at c
    rw [numN_rng hA]
    generalize Lib.atoiSat l = q at c ⊢
    clear hA hE hl hsz her
    go_enter Tryz.func37, Tryz.ntmps37
    go_wp2_with (go_at_call 52; refine c.mono ?_; rintro e W1 ⟨N, rfl, _, _, hB1⟩)
    go_ret2
    exact ⟨rfl, hB1⟩

theorem join4 (a b c d : Nm) : Lib.join [a, b, c, d] [32] = j4 a b c d := by
  unfold Lib.join j4
  simp [List.intercalate_cons_cons]
def W4 (w : World) (g : Nat) (a b c d : Nm) : Prop := g < w.heap.size ∧ w.cell? ⟨g, 0, none⟩ = some (.string (bs a)) ∧ w.cell? ⟨g, 1, none⟩ = some (.string (bs b)) ∧ w.cell? ⟨g, 2, none⟩ = some (.string (bs c)) ∧ w.cell? ⟨g, 3, none⟩ = some (.string (bs d))
set_option maxHeartbeats 4000000 in
set_option maxRecDepth 100000 in
theorem made_any {w : World} {g : Nat} {a b c d : Nm} (h : W4 w g a b c d) (hl : (j4 a b c d).length ≤ 1000000) :
    Calls Tryz.prog 13 #[.slice (some ⟨g, 0, none⟩) 4 4] w fun e w' => e = .returned (.string (bs (j4 a b c d ++ [10]))) ∧ Below w.heap.size w w' := by
  obtain ⟨hg, c0, c1, c2, c3⟩ := h
  have cj := Tryz.strings_Join g 0 4 [bs a, bs b, bs c, bs d] ⟨#[32]⟩ w (fun j x hx => by
    rw [Nat.zero_add]
    match j, hx with
    | 0, hx => injection hx with hx; rw [← hx]; exact c0
    | 1, hx => injection hx with hx; rw [← hx]; exact c1
    | 2, hx => injection hx with hx; rw [← hx]; exact c2
    | 3, hx => injection hx with hx; rw [← hx]; exact c3) hg (by simp) (by simp) (by
      simp only [List.map_cons, List.map_nil, bs_data]
      show (Lib.join [a, b, c, d] [32]).length ≤ _
      rw [join4]; omega)
  simp only [List.map_cons, List.map_nil, bs_data] at cj
  rw [join4] at cj
  have cj2 : Calls Tryz.prog 29 #[.slice (some ⟨g, 0, none⟩) 4 4, .string ⟨#[32]⟩] w fun e w' => e = .returned (.string (bs (j4 a b c d))) ∧ Below w.heap.size w w' := cj
  have a1 : ∀ w, (Op.stringOp .add (bs (j4 a b c d)) ⟨#[10]⟩).run Tryz.prog w = .ok (.string (bs (j4 a b c d ++ [10]))) w := fun w => run_string_add_lists w (j4 a b c d) [10] (by omega) (by simp)
  generalize j4 a b c d = J at cj2 a1 ⊢
  clear cj c0 c1 c2 c3
  obtain ⟨J2, hJ2⟩ : ∃ x, x = J ++ [10] := ⟨_, rfl⟩
  rw [← hJ2] at a1 ⊢
  clear hJ2
  go_enter Tryz.func13, Tryz.ntmps13
  go_wp2_with (go_at_call 29; refine cj2.mono ?_; rintro e W1 ⟨rfl, hB1⟩)
  go_ret
  exact ⟨rfl, hB1⟩
end Go.Proofs.YteabdlandbmdaaaGreatDoor

/-
  The walks of strings.genSplit and strings.SplitN: a text of any length, cut at its first blanks into four at most.
-/
namespace Go.Proofs.YteabdlandbmdaaaGreatDoor
open Go.RowKit
set_option linter.unusedVariables false
set_option linter.unusedSimpArgs false

def spl : Nat → Nm → List Nm
  | 0, l => [l]
  | k + 1, l => match cut1 l with
    | none => [l]
    | some (a, r) => a :: spl k r
theorem spl_none {k : Nat} {l : Nm} (h : cut1 l = none) : spl k l = [l] := by
  cases k with
  | zero => rfl
  | succ k => unfold spl; rw [h]
theorem spl_some {k : Nat} {l a r : Nm} (h : cut1 l = some (a, r)) : spl (k + 1) l = a :: spl k r := by
  show (match cut1 l with | none => [l] | some (a, r) => a :: spl k r) = _
  rw [h]
theorem cut1_len {l a r : Nm} (h : cut1 l = some (a, r)) : l.length = a.length + (r.length + 1) := by rw [cut1_some h]; simp
theorem cut1_index {l a r : Nm} (h : cut1 l = some (a, r)) : Lib.indexByte l 32 = a.length := by
  unfold cut1 at h
  split at h
  · cases h
  · injection h with h
    injection h with h1 h2
    have h0 := Lib.indexByte_ge l 32
    have hlt : (Lib.indexByte l 32).toNat < l.length := by
      obtain ⟨i, hi⟩ : ∃ i : Nat, Lib.indexByte l 32 = i := ⟨(Lib.indexByte l 32).toNat, by omega⟩
      rw [hi]
      exact (List.getElem?_eq_some_iff.1 (Lib.indexByte_some hi).1).1
    have := congrArg List.length h1
    rw [List.length_take] at this
    omega
theorem bs_takeS (l : Nm) (i : Nat) : (bs l).extract 0 i = bs (l.take i) := by
  rw [← bs_self ((bs l).extract 0 i), Lib.toList_data]
  congr 1
  rw [ByteArray.data_extract, Array.toList_extract, bs_data]
  simp [List.extract]
theorem bs_dropS (l : Nm) (i : Nat) : (bs l).extract i l.length = bs (l.drop i) := by
  rw [← bs_self ((bs l).extract i l.length), Lib.toList_data]
  congr 1
  rw [ByteArray.data_extract, Array.toList_extract, bs_data]
  simp only [List.extract]
  rw [List.take_of_length_le (by simp)]
def SplR (w : World) (l : Nm) (N g : Nat) (s0 s10 : Value) (wr : World) : Prop :=
  ∃ (D : List Nm) (r : Nm), s0 = .string (bs r) ∧ s10 = .int .i64 D.length ∧ D.length ≤ N - 1 ∧ g = N - 1 - D.length ∧ r.length ≤ l.length ∧
    wr = w.alloc (.cells (Lib.cellsOf (D.map bs) N) 9) ∧ D ++ spl (N - 1 - D.length) r = spl (N - 1) l

set_option maxHeartbeats 4000000 in
set_option maxRecDepth 100000 in
theorem genSplit_any (l : Nm) (N : Nat) (w : World) (hl : l.length ≤ 140737488355328) (hN : min (4 : Int) ((l.length : Int) + 1) = (N : Int)) (h1 : (1 : Int) ≤ N) (h4 : (N : Int) ≤ 4) :
    Calls Tryz.prog 36 #[.string (bs l), .string ⟨#[32]⟩, .int .i64 0, .int .i64 4] w fun e w' => e = .returned (.slice (some ⟨w.heap.size, 0, none⟩) (spl (N - 1) l).length N) ∧ w' = w.alloc (.cells (Lib.cellsOf ((spl (N - 1) l).map bs) N) 9) := by
  have hmk := run_make_row' (P := Tryz.prog) 68 9 (.string ByteArray.empty) 16 Tryz.underlying68 info9 rfl .i64 .i64 N (by omega) (by omega)
  have hsz : (bs l).size = l.length := bs_size l
  go_enter Tryz.func36, Tryz.ntmps36
  go_wp2
  clear hmk hN
  go_loopg [0, 10] (N - 1) (fun g s0 s10 wr => SplR w l N g s0 s10 wr)
  case atStart => exact ⟨[], l, rfl, rfl, Nat.zero_le _, by simp, Nat.le_refl _, by rw [List.map_nil, Lib.cellsOf_nil], by simp⟩
  case round =>
    obtain ⟨D, r, rfl, rfl, hd, rfl, hrl, rfl, hsp⟩ := hrel
    have hnext : (Lib.cellsOf (D.map bs) N)[D.length]? = some (.string ByteArray.empty) := by
      have := Lib.cellsOf_next (done := D.map bs) (N := N) (by rw [List.length_map]; omega)
      rwa [List.length_map] at this
    have HS : Hid (D ++ spl (N - 1 - D.length) r = spl (N - 1) l) := hsp
    clear hsp
    have cI := fun w => Tryz.strings_Index_one (bs r) 32 w
    rw [bs_data] at cI
    have HF : Hid (spl (N - 1 - D.length) r = [r] → (spl (N - 1) l).length = D.length + 1 ∧ (Lib.cellsOf (D.map bs) N).setIfInBounds D.length (.string (bs r)) = Lib.cellsOf ((spl (N - 1) l).map bs) N) := fun h => by
      have e := HS.out
      rw [h] at e
      rw [← e]
      refine ⟨by simp, ?_⟩
      have := Lib.cellsOf_set (done := D.map bs) (N := N) (by rw [List.length_map]; omega) (bs r)
      rw [List.length_map] at this
      rw [this, List.map_append]
      rfl
    by_cases hlt : D.length < N - 1
    · have hltz : ((D.length : Nat) : Int) < (N : Int) - 1 := by omega
      cases hc : cut1 r with
      | none =>
        rw [cut1_none hc] at cI
        have HG := Lib.hid (HF.out (spl_none hc))
        clear hc HF HS
        go_wp2_with (first | (go_at_call 51; refine (cI _).mono ?_; rintro e w' ⟨rfl, rfl⟩))
        go_ret
        rw [HG.out.1, ← HG.out.2]
        exact ⟨by first | rfl | (congr 2 <;> omega), rfl⟩
      | some q =>
        obtain ⟨a, r'⟩ := q
        have hi := cut1_index hc
        have hal := cut1_len hc
        rw [hi] at cI
        have hbz : (bs r).size = r.length := bs_size r
        have ha : r.take a.length = a := by rw [cut1_some hc]; simp
        have hb : r.drop (a.length + 1) = r' := by rw [cut1_some hc]; simp
        have c0 : ¬ ((a.length : Int) < 0) := by omega
        have c2 : (a.length : Int) ≤ ((bs r).size : Int) := by omega
        have c3 : (0 : Int) ≤ (a.length : Int) + 1 := by omega
        have c4 : (a.length : Int) + 1 ≤ ((bs r).size : Int) := by omega
        have e1 : (bs r).extract 0 a.length = bs a := by rw [bs_takeS, ha]
        have e2 : (bs r).extract (a.length + 1) (a.length + (r'.length + 1)) = bs r' := by rw [← hal, bs_dropS, hb]
        have HD : Hid (D ++ [a] ++ spl (N - 1 - (D ++ [a]).length) r' = spl (N - 1) l) := by
          show _ = _
          rw [← HS.out, show N - 1 - D.length = (N - 1 - (D ++ [a]).length) + 1 by simp; omega, spl_some hc]
          simp
        go_wp2_with (first | (go_at_call 51; refine (cI _).mono ?_; rintro e w' ⟨rfl, rfl⟩))
        go_roundg (N - 1 - (D.length + 1))
        case measure => omega
        case rel =>
          refine ⟨D ++ [a], r', rfl, by simp, by simp; omega, by simp, by omega, ?_, HD.out⟩
          have := Lib.cellsOf_set (done := D.map bs) (N := N) (by rw [List.length_map]; omega) (bs a)
          rw [List.length_map] at this
          rw [this, List.map_append]
          rfl
    · have hltz : ¬ (((D.length : Nat) : Int) < (N : Int) - 1) := by omega
      have hz : N - 1 - D.length = 0 := by omega
      have HG := Lib.hid (HF.out (by rw [hz]; rfl))
      clear HF HS hz cI
      go_wp2
      go_ret
      rw [HG.out.1, ← HG.out.2]
      exact ⟨by first | rfl | (congr 2 <;> omega), rfl⟩
theorem splitN_any (l : Nm) (N : Nat) (w : World) (hl : l.length ≤ 140737488355328) (hN : min (4 : Int) ((l.length : Int) + 1) = (N : Int)) (h1 : (1 : Int) ≤ N) (h4 : (N : Int) ≤ 4) :
    Calls Tryz.prog 20 #[.string (bs l), .string ⟨#[32]⟩, .int .i64 4] w fun e w' => e = .returned (.slice (some ⟨w.heap.size, 0, none⟩) (spl (N - 1) l).length N) ∧ w' = w.alloc (.cells (Lib.cellsOf ((spl (N - 1) l).map bs) N) 9) := by
  have c := genSplit_any l N w hl hN h1 h4
  go_enter Tryz.func20, Tryz.ntmps20
  go_wp2_with (go_at_call 36; refine c.mono ?_; rintro e w' ⟨rfl, rfl⟩)
  go_ret
  exact ⟨rfl, rfl⟩
theorem spl_len (k : Nat) : ∀ l : Nm, 1 ≤ (spl k l).length ∧ (spl k l).length ≤ k + 1 := by
  induction k with
  | zero => intro l; simp [spl]
  | succ k ih =>
    intro l
    cases h : cut1 l with
    | none => rw [spl_none h]; simp
    | some p =>
      obtain ⟨a, r⟩ := p
      rw [spl_some h]
      have := ih r
      simp only [List.length_cons]
      omega
theorem spl_w4 (l : Nm) : (∀ a b c d, w4 l = some (a, b, c, d) → spl 3 l = [a, b, c, d]) ∧ (w4 l = none → (spl 3 l).length ≤ 3) := by
  unfold w4
  cases h1 : cut1 l with
  | none => exact ⟨fun a b c d h => by simp at h, fun _ => by rw [spl_none h1]; simp⟩
  | some p =>
    obtain ⟨x, r⟩ := p
    rw [show (3 : Nat) = 2 + 1 from rfl, spl_some h1]
    simp only
    cases h2 : cut1 r with
    | none => exact ⟨fun a b c d h => by simp at h, fun _ => by rw [spl_none h2]; simp⟩
    | some p =>
      obtain ⟨y, r2⟩ := p
      rw [show (2 : Nat) = 1 + 1 from rfl, spl_some h2]
      simp only
      cases h3 : cut1 r2 with
      | none => exact ⟨fun a b c d h => by simp at h, fun _ => by rw [spl_none h3]; simp⟩
      | some p =>
        obtain ⟨z, r3⟩ := p
        rw [show (1 : Nat) = 0 + 1 from rfl, spl_some h3]
        refine ⟨fun a b c d h => ?_, fun h => by simp at h⟩
        simp only [Option.some.injEq, Prod.mk.injEq] at h
        obtain ⟨rfl, rfl, rfl, rfl⟩ := h
        rfl
theorem split_yes {l a b c d : Nm} (w : World) (hl : l.length ≤ 140737488355328) (h : w4 l = some (a, b, c, d)) :
    Calls Tryz.prog 20 #[.string (bs l), .string ⟨#[32]⟩, .int .i64 4] w fun e w' => e = .returned (.slice (some ⟨w.heap.size, 0, none⟩) 4 4) ∧ w' = w.alloc (.cells #[.string (bs a), .string (bs b), .string (bs c), .string (bs d)] 9) := by
  have e := w4_some h
  have hlen : 3 ≤ l.length := by rw [e]; unfold j4; simp; omega
  have hs := (spl_w4 l).1 a b c d h
  have := splitN_any l 4 w hl (by omega) (by decide) (by decide)
  rw [show (4 : Nat) - 1 = 3 from rfl, hs] at this
  exact this
theorem split_no {l : Nm} (w : World) (hl : l.length ≤ 140737488355328) (h : w4 l = none) :
    Calls Tryz.prog 20 #[.string (bs l), .string ⟨#[32]⟩, .int .i64 4] w fun e w' => ∃ k n : Nat, k ≤ 3 ∧ e = .returned (.slice (some ⟨w.heap.size, 0, none⟩) k n) ∧ Below w.heap.size w w' := by
  have hN : ∃ N : Nat, min (4 : Int) ((l.length : Int) + 1) = (N : Int) ∧ (1 : Int) ≤ N ∧ (N : Int) ≤ 4 ∧ (spl (N - 1) l).length ≤ 3 := by
    by_cases h3 : 3 ≤ l.length
    · exact ⟨4, by omega, by decide, by decide, (spl_w4 l).2 h⟩
    · refine ⟨l.length + 1, by omega, by omega, by omega, ?_⟩
      have := spl_len (l.length + 1 - 1) l
      omega
  obtain ⟨N, h1, h2, h3, h4⟩ := hN
  refine (splitN_any l N w hl h1 h2 h3).mono ?_
  rintro e w' ⟨rfl, rfl⟩
  exact ⟨_, _, h4, rfl, b_alloc (Below.refl _ _) _⟩
end Go.Proofs.YteabdlandbmdaaaGreatDoor
