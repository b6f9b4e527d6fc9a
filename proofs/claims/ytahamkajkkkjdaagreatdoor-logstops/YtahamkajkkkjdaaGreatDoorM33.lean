import Derived.Test.YtahamkajkkkjdaaGreatDoorM02
import Derived.Laws.MakeOwn
import Derived.OwnWalk
import Derived.Test.YtahamkajkkkjdaaGreatDoorM01
import Derived.Test.YtahamkajkkkjdaaGreatDoorM27
import Derived.Test.YtahamkajkkkjdaaGreatDoorM32
namespace Go.Proofs.YtahamkajkkkjdaaGreatDoor
open Go.RowKit
set_option linter.unusedVariables false
set_option linter.unusedSimpArgs false
section
variable {T : TypeId} {fn ft fb : FuncId}
theorem zerolsP : (Tryz.prog.info? 44).map (fun i => (i.zero, i.size, i.bytes)) = some (some (.agg #[.string ⟨#[]⟩, .int .i64 0, .int .i64 0, .string ⟨#[]⟩]), 4, 48) := by kernel_rfl
theorem makelsP (n : Nat) (hn : n ≤ 1099511627776) (W : World) : (Instr.makeSlice 38 (.int .i64 (n : Int)) (.int .i64 (n : Int))).run Tryz.prog W = .ok (.slice (some ⟨W.heap.size, 0, none⟩) n n) (W.alloc (.cells (madeCells (Value.cells (.agg #[.string ⟨#[]⟩, .int .i64 0, .int .i64 0, .string ⟨#[]⟩])) (n * 4)) 44)) := by
  obtain ⟨i0, hi, hz0, hz1, hz2⟩ := info_parts zerolsP
  have h := run_make (P := Tryz.prog) W 38 44 i0 _ Tryz.underlying38 hi hz0 .i64 .i64 (n : Int) (n : Int) (by omega) (by omega) (by rw [hz2]; omega) (by omega)
  rw [hz1] at h
  simpa using h
set_option maxHeartbeats 8000000 in
set_option maxRecDepth 100000 in
theorem lsP_walk (F : Fm T fn ft fb) {p : Addr} {w : World} {g off n cp eb eo : Nat} {ao : Option Addr} {P : World → Prop} {Q : Nat → World → Prop} (hn : n ≤ 1099511627776) (ha : 0 < n → ao = some ⟨eb, eo, none⟩)
    (h0 : w.cell? ⟨g, off, none⟩ = some (.slice ao n cp))
    (c1 : Calls Tryz.prog fn #[.pointer (some p), .pointer (some ⟨w.heap.size, 0, none⟩)] (w.alloc (.cells #[.int .i64 (n : Int)] 3)) (Ret P))
    (hP : ∀ W, P W → W.cell? ⟨w.heap.size, 0, none⟩ = some (.int .i64 (n : Int)) ∧ W.cell? ⟨g, off, none⟩ = some (.slice ao n cp))
    (hQ0 : ∀ W q, P W → Q 0 (W.drewN q))
    (hQc : ∀ k W, Q k W → W.cell? ⟨g, off, none⟩ = some (.slice ao n cp))
    (c3 : ∀ k, k < n → ∀ W, Q k W → Calls Tryz.prog 84 #[.iface T (.pointer (some p)), .pointer (some ⟨eb, eo + k * 4, none⟩)] W (Ret (Q (k + 1)))) :
    Calls Tryz.prog 124 #[.iface T (.pointer (some p)), .pointer (some ⟨g, off, none⟩), .func (.func 84) #[] #[]] w (Ret (Q n)) := by
  have xn := F.mn
  have zn := F.en
  have xt := F.mt
  have zt := F.et
  have HA := Lib.hid ha
  go_enter Tryz.func124, Tryz.ntmps124
  go_wp2_with (first | (go_at_fn fn; refine c1.mono ?_; rintro e W1 ⟨rfl, h1⟩; refine Hid.out ?_))
  refine Lib.hid ?_
  obtain ⟨q1, q2⟩ := hP _ h1
  go_upto_region 2 with fail
  go_quiet (fail)
  have hq := hQ0 _ nq h1
  have q4 := hQc _ _ hq
  generalize W1.drewN nq = W2 at *
  clear q1 q2 h1 hQ0 hP c1 h0 ha
  go_wp2
  go_loopw [28] (fun i wr => ∃ k : Nat, k ≤ n ∧ i = .int .i64 (k : Int) ∧ Q k wr) (fun i wr => n - (intOf i).toNat)
  case atStart => exact ⟨0, Nat.zero_le _, rfl, hq⟩
  case round =>
    obtain ⟨k, hk, rfl, hQk⟩ := hrel
    have q3 := hQc k wr hQk
    by_cases hlt : k < n
    · have c := c3 k hlt wr hQk
      obtain rfl := HA.out (by omega)
      have hlt2 : (k : Int) < (n : Int) := by omega
      go_wp2_with (first | (go_at_call 84; refine c.mono ?_; rintro e W3 ⟨rfl, h3⟩))
      go_roundw
      case rel => exact ⟨k + 1, by omega, by go_num, h3⟩
      case measure => simp [intOf]; omega
    · go_wp2
      go_end0
      obtain rfl : k = n := by omega
      exact ⟨rfl, hQk⟩
set_option maxHeartbeats 8000000 in
set_option maxRecDepth 100000 in
theorem lsP_make (F : Fm T fn ft fb) {p : Addr} {w : World} {g off n : Nat} {P : World → Prop} {Q : Nat → Nat → World → Prop} (hn : n ≤ 1099511627776) (hn0 : 0 < n)
    (h0 : w.cell? ⟨g, off, none⟩ = some (.slice none 0 0))
    (c1 : Calls Tryz.prog fn #[.pointer (some p), .pointer (some ⟨w.heap.size, 0, none⟩)] (w.alloc (.cells #[.int .i64 0] 3)) (Ret P))
    (hP : ∀ W, P W → W.cell? ⟨w.heap.size, 0, none⟩ = some (.int .i64 (n : Int)) ∧ W.cell? ⟨g, off, none⟩ = some (.slice none 0 0) ∧ W.frozen? ⟨g, off, none⟩ = false)
    (hQ0 : ∀ W q, P W → Q W.heap.size 0 (((W.drewN q).alloc (.cells (madeCells (Value.cells (.agg #[.string ⟨#[]⟩, .int .i64 0, .int .i64 0, .string ⟨#[]⟩])) (n * 4)) 44)).setCell ⟨g, off, none⟩ (.slice (some ⟨W.heap.size, 0, none⟩) n n)))
    (hQc : ∀ eb k W, Q eb k W → W.cell? ⟨g, off, none⟩ = some (.slice (some ⟨eb, 0, none⟩) n n))
    (c3 : ∀ eb k, k < n → ∀ W, Q eb k W → Calls Tryz.prog 84 #[.iface T (.pointer (some p)), .pointer (some ⟨eb, k * 4, none⟩)] W (Ret (Q eb (k + 1)))) :
    Calls Tryz.prog 124 #[.iface T (.pointer (some p)), .pointer (some ⟨g, off, none⟩), .func (.func 84) #[] #[]] w (Ret (fun W => ∃ eb, Q eb n W)) := by
  have xn := F.mn
  have zn := F.en
  have xt := F.mt
  have zt := F.et
  have hne : ((n : Int) == 0) = false := by simp; omega
  have hne2 : ((n : Int) != 0) = true := by simp; omega
  go_enter Tryz.func124, Tryz.ntmps124
  go_wp2_with (first | (go_at_fn fn; refine c1.mono ?_; rintro e W1 ⟨rfl, h1⟩; refine Hid.out ?_))
  refine Lib.hid ?_
  obtain ⟨q1, q2, q5⟩ := hP _ h1
  go_upto_region 2 with fail
  go_quiet (fail)
  have hq := hQ0 _ nq h1
  have hz : W1.heap.size = (W1.drewN nq).heap.size := rfl
  rw [hz] at hq
  have q6 : (W1.drewN nq).cell? ⟨w.heap.size, 0, none⟩ = some (.int .i64 (n : Int)) := q1
  have q7 : (W1.drewN nq).cell? ⟨g, off, none⟩ = some (.slice none 0 0) := q2
  have q8 : (W1.drewN nq).frozen? ⟨g, off, none⟩ = false := q5
  clear hz q1 q2 q5 h1 hQ0 hP c1 h0
  generalize W1.drewN nq = W2 at *
  have hmk := makelsP n hn W2
  generalize madeCells _ _ = zs at hmk hq
  have m0 := cellOld q7 (.cells zs 44)
  have m1 : (W2.alloc (.cells zs 44)).frozen? ⟨g, off, none⟩ = false := frzOld q8 (cell_lt q7) _
  have q4 := hQc _ _ _ hq
  generalize hWs : (W2.alloc (.cells zs 44)).setCell ⟨g, off, none⟩ (.slice (some ⟨W2.heap.size, 0, none⟩) n n) = W3 at *
  have HW := Lib.hid hWs
  clear hWs
  go_upto_region 4 with fail
  rw [HW.out]
  clear m0 m1 hmk HW
  generalize W2.heap.size = eb at *
  clear q6 q7 q8
  go_wp2
  go_loopw [28] (fun i wr => ∃ k : Nat, k ≤ n ∧ i = .int .i64 (k : Int) ∧ Q eb k wr) (fun i wr => n - (intOf i).toNat)
  case atStart => exact ⟨0, Nat.zero_le _, rfl, hq⟩
  case round =>
    obtain ⟨k, hk, rfl, hQk⟩ := hrel
    have q3 := hQc eb k wr hQk
    by_cases hlt : k < n
    · have c := c3 eb k hlt wr hQk
      have hlt2 : (k : Int) < (n : Int) := by omega
      go_wp2_with (first | (go_at_call 84; refine c.mono ?_; rintro e W3 ⟨rfl, h3⟩))
      go_roundw
      case rel => exact ⟨k + 1, by omega, by go_num, h3⟩
      case measure => simp [intOf]; omega
    · go_wp2
      go_end0
      obtain rfl : k = n := by omega
      exact ⟨rfl, eb, hQk⟩
theorem zerolsO : (Tryz.prog.info? 48).map (fun i => (i.zero, i.size, i.bytes)) = some (some (.agg #[.int .i64 0, .int .i64 0, .string ⟨#[]⟩, .slice none 0 0, .string ⟨#[]⟩, .int .i64 0, .int .i64 0, .string ⟨#[]⟩, .string ⟨#[]⟩, .int .i64 0, .int .i64 0]), 11, 136) := by kernel_rfl
theorem makelsO (n : Nat) (hn : n ≤ 1099511627776) (W : World) : (Instr.makeSlice 49 (.int .i64 (n : Int)) (.int .i64 (n : Int))).run Tryz.prog W = .ok (.slice (some ⟨W.heap.size, 0, none⟩) n n) (W.alloc (.cells (madeCells (Value.cells (.agg #[.int .i64 0, .int .i64 0, .string ⟨#[]⟩, .slice none 0 0, .string ⟨#[]⟩, .int .i64 0, .int .i64 0, .string ⟨#[]⟩, .string ⟨#[]⟩, .int .i64 0, .int .i64 0])) (n * 11)) 48)) := by
  obtain ⟨i0, hi, hz0, hz1, hz2⟩ := info_parts zerolsO
  have h := run_make (P := Tryz.prog) W 49 48 i0 _ Tryz.underlying49 hi hz0 .i64 .i64 (n : Int) (n : Int) (by omega) (by omega) (by rw [hz2]; omega) (by omega)
  rw [hz1] at h
  simpa using h
set_option maxHeartbeats 8000000 in
set_option maxRecDepth 100000 in
theorem lsO_walk (F : Fm T fn ft fb) {p : Addr} {w : World} {g off n cp eb eo : Nat} {ao : Option Addr} {P : World → Prop} {Q : Nat → World → Prop} (hn : n ≤ 1099511627776) (ha : 0 < n → ao = some ⟨eb, eo, none⟩)
    (h0 : w.cell? ⟨g, off, none⟩ = some (.slice ao n cp))
    (c1 : Calls Tryz.prog fn #[.pointer (some p), .pointer (some ⟨w.heap.size, 0, none⟩)] (w.alloc (.cells #[.int .i64 (n : Int)] 3)) (Ret P))
    (hP : ∀ W, P W → W.cell? ⟨w.heap.size, 0, none⟩ = some (.int .i64 (n : Int)) ∧ W.cell? ⟨g, off, none⟩ = some (.slice ao n cp))
    (hQ0 : ∀ W q, P W → Q 0 (W.drewN q))
    (hQc : ∀ k W, Q k W → W.cell? ⟨g, off, none⟩ = some (.slice ao n cp))
    (c3 : ∀ k, k < n → ∀ W, Q k W → Calls Tryz.prog 56 #[.iface T (.pointer (some p)), .pointer (some ⟨eb, eo + k * 11, none⟩)] W (Ret (Q (k + 1)))) :
    Calls Tryz.prog 55 #[.iface T (.pointer (some p)), .pointer (some ⟨g, off, none⟩), .func (.func 56) #[] #[]] w (Ret (Q n)) := by
  have xn := F.mn
  have zn := F.en
  have xt := F.mt
  have zt := F.et
  have HA := Lib.hid ha
  go_enter Tryz.func55, Tryz.ntmps55
  go_wp2_with (first | (go_at_fn fn; refine c1.mono ?_; rintro e W1 ⟨rfl, h1⟩; refine Hid.out ?_))
  refine Lib.hid ?_
  obtain ⟨q1, q2⟩ := hP _ h1
  go_upto_region 2 with fail
  go_quiet (fail)
  have hq := hQ0 _ nq h1
  have q4 := hQc _ _ hq
  generalize W1.drewN nq = W2 at *
  clear q1 q2 h1 hQ0 hP c1 h0 ha
  go_wp2
  go_loopw [28] (fun i wr => ∃ k : Nat, k ≤ n ∧ i = .int .i64 (k : Int) ∧ Q k wr) (fun i wr => n - (intOf i).toNat)
  case atStart => exact ⟨0, Nat.zero_le _, rfl, hq⟩
  case round =>
    obtain ⟨k, hk, rfl, hQk⟩ := hrel
    have q3 := hQc k wr hQk
    by_cases hlt : k < n
    · have c := c3 k hlt wr hQk
      obtain rfl := HA.out (by omega)
      have hlt2 : (k : Int) < (n : Int) := by omega
      go_wp2_with (first | (go_at_call 56; refine c.mono ?_; rintro e W3 ⟨rfl, h3⟩))
      go_roundw
      case rel => exact ⟨k + 1, by omega, by go_num, h3⟩
      case measure => simp [intOf]; omega
    · go_wp2
      go_end0
      obtain rfl : k = n := by omega
      exact ⟨rfl, hQk⟩
set_option maxHeartbeats 8000000 in
set_option maxRecDepth 100000 in
theorem lsO_make (F : Fm T fn ft fb) {p : Addr} {w : World} {g off n : Nat} {P : World → Prop} {Q : Nat → Nat → World → Prop} (hn : n ≤ 1099511627776) (hn0 : 0 < n)
    (h0 : w.cell? ⟨g, off, none⟩ = some (.slice none 0 0))
    (c1 : Calls Tryz.prog fn #[.pointer (some p), .pointer (some ⟨w.heap.size, 0, none⟩)] (w.alloc (.cells #[.int .i64 0] 3)) (Ret P))
    (hP : ∀ W, P W → W.cell? ⟨w.heap.size, 0, none⟩ = some (.int .i64 (n : Int)) ∧ W.cell? ⟨g, off, none⟩ = some (.slice none 0 0) ∧ W.frozen? ⟨g, off, none⟩ = false)
    (hQ0 : ∀ W q, P W → Q W.heap.size 0 (((W.drewN q).alloc (.cells (madeCells (Value.cells (.agg #[.int .i64 0, .int .i64 0, .string ⟨#[]⟩, .slice none 0 0, .string ⟨#[]⟩, .int .i64 0, .int .i64 0, .string ⟨#[]⟩, .string ⟨#[]⟩, .int .i64 0, .int .i64 0])) (n * 11)) 48)).setCell ⟨g, off, none⟩ (.slice (some ⟨W.heap.size, 0, none⟩) n n)))
    (hQc : ∀ eb k W, Q eb k W → W.cell? ⟨g, off, none⟩ = some (.slice (some ⟨eb, 0, none⟩) n n))
    (c3 : ∀ eb k, k < n → ∀ W, Q eb k W → Calls Tryz.prog 56 #[.iface T (.pointer (some p)), .pointer (some ⟨eb, k * 11, none⟩)] W (Ret (Q eb (k + 1)))) :
    Calls Tryz.prog 55 #[.iface T (.pointer (some p)), .pointer (some ⟨g, off, none⟩), .func (.func 56) #[] #[]] w (Ret (fun W => ∃ eb, Q eb n W)) := by
  have xn := F.mn
  have zn := F.en
  have xt := F.mt
  have zt := F.et
  have hne : ((n : Int) == 0) = false := by simp; omega
  have hne2 : ((n : Int) != 0) = true := by simp; omega
  go_enter Tryz.func55, Tryz.ntmps55
  go_wp2_with (first | (go_at_fn fn; refine c1.mono ?_; rintro e W1 ⟨rfl, h1⟩; refine Hid.out ?_))
  refine Lib.hid ?_
  obtain ⟨q1, q2, q5⟩ := hP _ h1
  go_upto_region 2 with fail
  go_quiet (fail)
  have hq := hQ0 _ nq h1
  have hz : W1.heap.size = (W1.drewN nq).heap.size := rfl
  rw [hz] at hq
  have q6 : (W1.drewN nq).cell? ⟨w.heap.size, 0, none⟩ = some (.int .i64 (n : Int)) := q1
  have q7 : (W1.drewN nq).cell? ⟨g, off, none⟩ = some (.slice none 0 0) := q2
  have q8 : (W1.drewN nq).frozen? ⟨g, off, none⟩ = false := q5
  clear hz q1 q2 q5 h1 hQ0 hP c1 h0
  generalize W1.drewN nq = W2 at *
  have hmk := makelsO n hn W2
  generalize madeCells _ _ = zs at hmk hq
  have m0 := cellOld q7 (.cells zs 48)
  have m1 : (W2.alloc (.cells zs 48)).frozen? ⟨g, off, none⟩ = false := frzOld q8 (cell_lt q7) _
  have q4 := hQc _ _ _ hq
  generalize hWs : (W2.alloc (.cells zs 48)).setCell ⟨g, off, none⟩ (.slice (some ⟨W2.heap.size, 0, none⟩) n n) = W3 at *
  have HW := Lib.hid hWs
  clear hWs
  go_upto_region 4 with fail
  rw [HW.out]
  clear m0 m1 hmk HW
  generalize W2.heap.size = eb at *
  clear q6 q7 q8
  go_wp2
  go_loopw [28] (fun i wr => ∃ k : Nat, k ≤ n ∧ i = .int .i64 (k : Int) ∧ Q eb k wr) (fun i wr => n - (intOf i).toNat)
  case atStart => exact ⟨0, Nat.zero_le _, rfl, hq⟩
  case round =>
    obtain ⟨k, hk, rfl, hQk⟩ := hrel
    have q3 := hQc eb k wr hQk
    by_cases hlt : k < n
    · have c := c3 eb k hlt wr hQk
      have hlt2 : (k : Int) < (n : Int) := by omega
      go_wp2_with (first | (go_at_call 56; refine c.mono ?_; rintro e W3 ⟨rfl, h3⟩))
      go_roundw
      case rel => exact ⟨k + 1, by omega, by go_num, h3⟩
      case measure => simp [intOf]; omega
    · go_wp2
      go_end0
      obtain rfl : k = n := by omega
      exact ⟨rfl, eb, hQk⟩
end
abbrev I64 (n : Int) : Prop := -9223372036854775808 ≤ n ∧ n ≤ 9223372036854775807
def encV (t n : Int) (s : ByteArray) : List UInt8 := encN t ++ encN n ++ encT s.data.toList
def encP (p : Pr) : List UInt8 := encT p.nm.data.toList ++ encV p.t p.n p.s
def encNd (n : Nd) : List UInt8 := encN n.id ++ encT n.kd.data.toList ++ encL encP n.rc
def encTe (t : Te) : List UInt8 := encT t.bd.data.toList ++ encN t.fr ++ encN t.tt
def encO (o : Opx) : List UInt8 := encN o.wh ++
  (if o.wh = 1 then encNd o.nd else if o.wh = 2 then encN o.nd.id else if o.wh = 3 then encN o.nd.id ++ encP o.pr else if o.wh = 4 then encN o.nd.id ++ encT o.pr.nm.data.toList
   else encTe o.te)
def PrI (p : Pr) : Prop := I64 p.t ∧ I64 p.n
def NdI (n : Nd) : Prop := I64 n.id ∧ ∀ p ∈ n.rc, PrI p
def TeI (t : Te) : Prop := I64 t.fr ∧ I64 t.tt
theorem encL_step {α : Type} (f : α → List UInt8) (L : List α) (k : Nat) (x : α) (hx : L[k]? = some x) : (L.take (k + 1)).flatMap f = (L.take k).flatMap f ++ f x := by
  rw [List.take_add_one, hx]; simp
theorem encL_le {α : Type} (f : α → List UInt8) (L : List α) (k : Nat) (x : α) (hx : L[k]? = some x) : ((L.take k).flatMap f).length + (f x).length ≤ (L.flatMap f).length := by
  have h : L = L.take (k + 1) ++ L.drop (k + 1) := (List.take_append_drop _ _).symm
  have e : (L.flatMap f) = (L.take (k + 1)).flatMap f ++ (L.drop (k + 1)).flatMap f := by rw [← List.flatMap_append, ← h]
  rw [e, encL_step f L k x hx]
  simp only [List.length_append]; omega
theorem encL_ge {α : Type} (f : α → List UInt8) (hf : ∀ x, 1 ≤ (f x).length) (L : List α) : L.length ≤ (encL f L).length := by
  have : ∀ M : List α, M.length ≤ (M.flatMap f).length := by
    intro M
    induction M with
    | nil => simp
    | cons x r ih => rw [List.flatMap_cons, List.length_append, List.length_cons]; have := hf x; omega
  unfold encL
  rw [List.length_append]
  have := this L
  omega
theorem encP_pos (p : Pr) : 1 ≤ (encP p).length := by
  unfold encP encT
  simp only [List.length_append]
  have := encN_pos p.nm.data.toList.length
  omega
structure OpI (o : Opx) : Prop where
  w1 : 1 ≤ o.wh ∧ o.wh ≤ 6
  nd : o.wh = 1 → NdI o.nd
  id : o.wh = 2 ∨ o.wh = 3 ∨ o.wh = 4 → I64 o.nd.id
  pr : o.wh = 3 → PrI o.pr
  te : o.wh = 5 ∨ o.wh = 6 → TeI o.te
theorem encO_pos (o : Opx) : 1 ≤ (encO o).length := by
  unfold encO
  rw [List.length_append]
  have := encN_pos o.wh
  omega
def encE0 (L : List Opx) : List UInt8 := encB false ++ encL encO L
theorem fmW : Fm 100 57 32 280 where
  mn v W := by kernel_rfl
  mt v W := by kernel_rfl
  mb v W := by kernel_rfl
  nn p W := by kernel_rfl
  nt p W := by kernel_rfl
  nb p W := by kernel_rfl
  en := enters_of Tryz.func57 (by kernel_rfl) rfl
  et := enters_of Tryz.func32 (by kernel_rfl) rfl
  eb := enters_of Tryz.func280 (by kernel_rfl) rfl
def Pw (w0 u0 : World) (b : Nat) (l : List UInt8) (W : World) : Prop := Wr W w0.heap.size b l ∧ Wf w0.heap.size b w0 W ∧ Wf w0.heap.size b u0 W
abbrev wpt (b : Nat) : Value := .pointer (some ⟨b, 0, none⟩)
section
variable {w0 u0 : World} {b : Nat} {l : List UInt8}
theorem Pw.on {W W' : World} (h : Pw w0 u0 b l W) (hB : Below W.heap.size W W') : Pw w0 u0 b l W' := ⟨h.1.on hB, h.2.1.trans (.of_below hB h.1.hB), h.2.2.trans (.of_below hB h.1.hB)⟩
theorem Pw.drew {W : World} (h : Pw w0 u0 b l W) : Pw w0 u0 b l W.drew := h.on (bD (Below.refl _ _))
theorem Pw.drewN {W : World} (h : Pw w0 u0 b l W) (q : Nat) : Pw w0 u0 b l (W.drewN q) := h.on (b_drewK (Below.refl _ _) q)
theorem Pw.cell {W : World} (h : Pw w0 u0 b l W) {a : Addr} {v : Value} (hc : w0.cell? a = some v) : W.cell? a = some v := (h.2.1.below.cell (cell_lt hc)).trans hc
theorem pw_num {a : Addr} {n : Int} (hc : w0.cell? a = some (.int .i64 n)) (hn : I64 n) (hl : l.length ≤ 1099511627776) : ∀ W, Pw w0 u0 b l W → Calls Tryz.prog 57 #[wpt b, .pointer (some a)] W.drew (Ret (Pw w0 u0 b (l ++ encN n))) := fun W h =>
  (wnum_any h.drew.1 (h.drew.cell hc) hn.1 hn.2 hl).mono fun e w' q => ⟨q.1, q.2.1, h.drew.2.1.trans q.2.2, h.drew.2.2.trans q.2.2⟩
theorem pw_tru {a : Addr} {t : Bool} (hc : w0.cell? a = some (.bool t)) (hl : l.length ≤ 1099511627776) : ∀ W, Pw w0 u0 b l W → Calls Tryz.prog 280 #[wpt b, .pointer (some a)] W.drew (Ret (Pw w0 u0 b (l ++ encB t))) := fun W h =>
  (wtru_any h.drew.1 (h.drew.cell hc) hl).mono fun e w' q => ⟨q.1, q.2.1, h.drew.2.1.trans q.2.2, h.drew.2.2.trans q.2.2⟩
theorem pw_text0 {a : Addr} {x : ByteArray} (hc : w0.cell? a = some (.string x)) (hl : l.length + x.data.toList.length ≤ 1099511627776) : ∀ W, Pw w0 u0 b l W → Calls Tryz.prog 32 #[wpt b, .pointer (some a)] W (Ret (Pw w0 u0 b (l ++ encT x.data.toList))) := fun W h =>
  (wtext_any h.1 (fun w' hf => ((h.2.1.trans hf).below.cell (cell_lt hc)).trans hc) hl).mono fun e w' q => ⟨q.1, q.2.1, h.2.1.trans q.2.2, h.2.2.trans q.2.2⟩
theorem pw_text {a : Addr} {x : ByteArray} (hc : w0.cell? a = some (.string x)) (hl : l.length + x.data.toList.length ≤ 1099511627776) : ∀ W, Pw w0 u0 b l W → Calls Tryz.prog 32 #[wpt b, .pointer (some a)] W.drew (Ret (Pw w0 u0 b (l ++ encT x.data.toList))) := fun W h => pw_text0 hc hl W.drew h.drew
def AtC (w : World) (g off : Nat) (cs : List Value) : Prop := ∀ i u, cs[i]? = some u → w.cell? ⟨g, off + i, none⟩ = some u
theorem AtC.sub {w : World} {g off : Nat} {cs : List Value} (h : AtC w g off cs) (k : Nat) (ds : List Value) (hd : ∀ i u, ds[i]? = some u → cs[k + i]? = some u) : AtC w g (off + k) ds := fun i u hu => by
  have := h (k + i) u (hd i u hu)
  rwa [← Nat.add_assoc] at this
theorem pret_eq {l l' : List UInt8} (e : l = l') {f : FuncId} {args : Array Value} {W : World} (c : Calls Tryz.prog f args W (Ret (Pw w0 u0 b l))) : Calls Tryz.prog f args W (Ret (Pw w0 u0 b l')) := e ▸ c
theorem pw_val {g off : Nat} {t n : Int} {x : ByteArray} (hc : AtC w0 g off [.int .i64 t, .int .i64 n, .string x]) (ht : I64 t) (hn : I64 n) (hl : (l ++ encV t n x).length ≤ 1099511627776) :
    ∀ W, Pw w0 u0 b l W → Calls Tryz.prog 81 #[.iface 100 (wpt b), .pointer (some ⟨g, off, none⟩)] W (Ret (Pw w0 u0 b (l ++ encV t n x))) := fun W h => by
  unfold encV encT at hl
  simp only [List.length_append] at hl
  have c := val_walk fmW (p := ⟨b, 0, none⟩) (P0 := Pw w0 u0 b l) h (pw_num (hc 0 _ rfl) ht (by omega)) (pw_num (hc 1 _ rfl) hn (by rw [List.length_append]; omega)) (pw_text (hc 2 _ rfl) (by rw [List.length_append, List.length_append]; omega))
  exact pret_eq (by unfold encV; simp) c
theorem pw_prop {g off : Nat} {p : Pr} (hc : AtC w0 g off p.cells) (hi : PrI p) (hl : (l ++ encP p).length ≤ 1099511627776) :
    ∀ W, Pw w0 u0 b l W → Calls Tryz.prog 84 #[.iface 100 (wpt b), .pointer (some ⟨g, off, none⟩)] W (Ret (Pw w0 u0 b (l ++ encP p))) := fun W h => by
  have hl2 : ((l ++ encT p.nm.data.toList) ++ encV p.t p.n p.s).length ≤ 1099511627776 := by unfold encP at hl; rw [List.append_assoc]; exact hl
  unfold encP encT at hl
  simp only [List.length_append] at hl
  have c := prop_walk fmW (p := ⟨b, 0, none⟩) (P0 := Pw w0 u0 b l) h (pw_text (hc 0 _ rfl) (by omega)) (pw_val (hc.sub 1 _ (fun i u hu => by
    match i, hu with
    | 0, hu => exact hu
    | 1, hu => exact hu
    | 2, hu => exact hu)) hi.1 hi.2 hl2)
  exact pret_eq (by unfold encP; simp) c
theorem pw_tie {g off : Nat} {t : Te} (hc : AtC w0 g off t.cells) (hi : TeI t) (hl : (l ++ encTe t).length ≤ 1099511627776) :
    ∀ W, Pw w0 u0 b l W → Calls Tryz.prog 85 #[.iface 100 (wpt b), .pointer (some ⟨g, off, none⟩)] W (Ret (Pw w0 u0 b (l ++ encTe t))) := fun W h => by
  unfold encTe at hl
  simp only [List.length_append] at hl
  have hx : (encT t.bd.data.toList).length = (encN t.bd.data.toList.length).length + t.bd.data.toList.length := by unfold encT; rw [List.length_append]
  have c := tie_walk fmW (p := ⟨b, 0, none⟩) (P0 := Pw w0 u0 b l) h (pw_text (hc 0 _ rfl) (by omega)) (pw_num (hc 1 _ rfl) hi.1 (by rw [List.length_append]; omega)) (pw_num (hc 2 _ rfl) hi.2 (by rw [List.length_append, List.length_append]; omega))
  exact pret_eq (by unfold encTe; simp) c
theorem pw_len {W : World} (h : Pw w0 u0 b l W) (n : Nat) (hn : n ≤ 1099511627776) (hl : l.length ≤ 1099511627776) :
    Calls Tryz.prog 57 #[wpt b, .pointer (some ⟨W.heap.size, 0, none⟩)] (W.alloc (.cells #[.int .i64 (n : Int)] 3)) (Ret fun w' => Pw w0 u0 b (l ++ encN n) w' ∧ w'.cell? ⟨W.heap.size, 0, none⟩ = some (.int .i64 (n : Int))) := by
  have hA := h.on (bA (Below.refl _ W) (Nat.le_refl _) (.cells #[.int .i64 (n : Int)] 3))
  have hb := heap_alloc_new W (.cells #[.int .i64 (n : Int)] 3)
  refine (wnum_any hA.1 (a := ⟨W.heap.size, 0, none⟩) (n := (n : Int)) (cell_at hb rfl) (by omega) (by omega) hl).mono fun e w' q => ⟨q.1, ⟨q.2.1, hA.2.1.trans q.2.2, hA.2.2.trans q.2.2⟩, ?_⟩
  exact cell_at ((q.2.2.kt 3 (by decide) (by decide)).2 _ _ hb) rfl
theorem pw_rec {g off : Nat} {v : Value} {L : List Pr} (hv : w0.cell? ⟨g, off, none⟩ = some v) (hR : IsR w0 v L) (hi : ∀ p ∈ L, PrI p) (hl : (l ++ encL encP L).length ≤ 1099511627776) :
    ∀ W, Pw w0 u0 b l W → Calls Tryz.prog 124 #[.iface 100 (wpt b), .pointer (some ⟨g, off, none⟩), .func (.func 84) #[] #[]] W (Ret (Pw w0 u0 b (l ++ encL encP L))) := fun W h => by
  obtain ⟨ao, cp, rfl, hc⟩ := hR
  have hn := encL_ge encP encP_pos L
  have hl' := hl
  unfold encL at hl'
  simp only [List.length_append] at hl' hl
  obtain ⟨eb, eo, ha, hLs⟩ : ∃ eb eo, (0 < L.length → ao = some ⟨eb, eo, none⟩) ∧ (0 < L.length → Lies w0 eb eo L) := by
    rcases hc with rfl | ⟨eb, eo, e, _, hL⟩
    · exact ⟨0, 0, fun h => absurd h (by simp), fun h => absurd h (by simp)⟩
    · exact ⟨eb, eo, fun _ => e, fun _ => hL⟩
  have c := lsP_walk fmW (p := ⟨b, 0, none⟩) (g := g) (off := off) (n := L.length) (cp := cp) (eb := eb) (eo := eo) (ao := ao) (w := W) (Q := fun k => Pw w0 u0 b (l ++ encN L.length ++ (L.take k).flatMap encP)) (by omega) ha (h.cell hv) (pw_len h L.length (by omega) (by omega))
    (fun w' q => ⟨q.2, q.1.cell hv⟩) (fun w' q hq => by simpa using hq.1.drewN q) (fun k w' q => q.cell hv) (fun k hk w' q => by
      obtain ⟨x, hx⟩ : ∃ x, L[k]? = some x := ⟨L[k], by simp [hk]⟩
      have hle2 := encL_le encP L k x hx
      have c := pw_prop (l := l ++ encN L.length ++ (L.take k).flatMap encP) (b := b) (w0 := w0) (u0 := u0) (g := eb) (off := eo + k * 4) (p := x) (fun i u hu => by
        obtain ⟨c0, c1, c2, c3⟩ := hLs (by omega) k x hx
        match i, hu with
        | 0, hu => injection hu with hu; subst hu; exact c0
        | 1, hu => injection hu with hu; subst hu; exact c1
        | 2, hu => injection hu with hu; subst hu; exact c2
        | 3, hu => injection hu with hu; subst hu; exact c3) (hi x (List.mem_of_getElem? hx)) (by simp only [List.length_append]; omega) w' q
      refine pret_eq ?_ c
      rw [encL_step encP L k x hx, List.append_assoc])
  refine pret_eq ?_ c
  unfold encL
  rw [List.take_length, List.append_assoc]
theorem pw_node {g off : Nat} {n : Nd} (hc : AtC w0 g off n.cells) (hR : IsR w0 n.rv n.rc) (hi : NdI n) (hl : (l ++ encNd n).length ≤ 1099511627776) :
    ∀ W, Pw w0 u0 b l W → Calls Tryz.prog 83 #[.iface 100 (wpt b), .pointer (some ⟨g, off, none⟩)] W (Ret (Pw w0 u0 b (l ++ encNd n))) := fun W h => by
  have hl2 : ((l ++ encN n.id ++ encT n.kd.data.toList) ++ encL encP n.rc).length ≤ 1099511627776 := by unfold encNd at hl; simpa using hl
  unfold encNd encT at hl
  simp only [List.length_append] at hl
  have c := node_walk fmW (p := ⟨b, 0, none⟩) (P0 := Pw w0 u0 b l) h (pw_num (hc 0 _ rfl) hi.1 (by omega)) (pw_text (hc 1 _ rfl) (by rw [List.length_append]; omega)) (pw_rec (hc 2 _ rfl) hR hi.2 hl2)
  exact pret_eq (by unfold encNd; simp) c
end
end Go.Proofs.YtahamkajkkkjdaaGreatDoor
