import Derived.Test.YtahamkajkkkjdaaGreatDoorM50
import Derived.Test.YtahamkajkkkjdaaGreatDoorM03
import Derived.LaidEql
import Derived.Stop.Asserts
import Derived.RowKitTokens
import Derived.Laws.Cover1
import Derived.Test.YtahamkajkkkjdaaGreatDoorM02
import Derived.Laws.MakeOwn
import Derived.OwnWalk
import Derived.Test.YtahamkajkkkjdaaGreatDoorM01
namespace Go.Proofs.YtahamkajkkkjdaaGreatDoor
open Go.RowKit
set_option linter.unusedVariables false
set_option linter.unusedSimpArgs false
theorem opsA_pre {j : Nat} {A R : List (List Opx)} (h : opsA j = A ++ R) : A.length ≤ j ∧ A = opsA A.length := by
  have hl : j = A.length + R.length := by have := congrArg List.length h; simpa [opsA] using this
  refine ⟨by omega, ?_⟩
  have ht : A = (opsA j).take A.length := by rw [h, List.take_left]
  have ht2 : (opsA j).take A.length = opsA A.length := by unfold opsA; rw [← List.map_take, List.take_range, Nat.min_eq_left (by omega)]
  rw [← ht2]; exact ht
theorem ops_small {j : Nat} (hj : j ≤ 20) : ∀ O ∈ opsA j, (recL (encE0 O)).length ≤ 1000000000 := fun O hO => by
  unfold opsA at hO
  obtain ⟨i, hi, rfl⟩ := List.mem_map.1 hO
  have := rec_len i (by have := List.mem_range.1 hi; omega)
  omega
theorem crash_inv {f i : Nat} {s : Lg} (h : Inv f i s) (k : Int) : ∃ j tl, j ≤ 20 ∧ s.bs.take (crK s k) = rcs (opsA j) ++ tl ∧ whole tl = none ∧ ∀ A O R, opsA j = A ++ O :: R → RecOk s.L0 s.B0 O (stR A ([], [])).1 (stR A ([], [])).2 := by
  obtain ⟨j, t, _, hj2, hN, hb, ht, _⟩ := h.bs
  obtain ⟨e1, e2, _⟩ := h.a
  obtain ⟨A, R, tl, q1, q2, q3⟩ := take_rcs (opsA j) (crK s k) ht (ops_small hj2)
  obtain ⟨r1, r2⟩ := opsA_pre q1
  refine ⟨A.length, tl, by omega, by rw [hb, q2, ← r2], q3.whole, fun A' O R' hA => ?_⟩
  rw [e1, e2]
  exact rec_ops (by omega) hA
def sC (s : Lg) (j : Nat) : Lg := crS s (opsA j)
theorem sC_eq {f i : Nat} {s : Lg} (h : Inv f i s) {j : Nat} (hj : j ≤ 20) : sC s j = ⟨LA, [], LA, [], ndsA j, [], rcs (opsA j), (rcs (opsA j)).length, -1, false⟩ := by
  obtain ⟨e1, e2, _⟩ := h.a
  unfold sC crS
  rw [e1, e2, stR_ops j (by omega)]
theorem sC_ok {f i : Nat} {s : Lg} (h : Inv f i s) (hf : f ≤ 20) {j : Nat} (hj : j ≤ 20) : LgOk (sC s j) := by
  have k := h.ok hf
  have e := sC_eq h hj
  obtain ⟨e1, e2, _⟩ := h.a
  obtain ⟨k0, b0, s0, _, _, _, _, _⟩ := k
  rw [e1] at k0
  rw [e2] at b0
  rw [e1, e2] at s0
  rw [e]
  exact ⟨k0, b0, s0, k0, b0, s0, by show -9223372036854775808 ≤ (-1 : Int); decide, by show (-1 : Int) < 9223372036854775808; decide⟩
theorem alt_chB {f i : Nat} {s : Lg} (h : Inv f i s) {j : Nat} (hj : j ≤ 20) (r : List UInt8) : (altS (sC s j) chB r).1 = 0 ∧ (altS (sC s j) chB r).2.L.length = 2 ∧ (syncS (altS (sC s j) chB r).2).1 = 0 ∧ (altS (sC s j) chB r).2.bs = rcs (opsA j) ++ r := by
  rw [sC_eq h hj]
  have hg := gr_chB j (by omega)
  unfold altS stepS
  simp only [hg]
  exact ⟨rfl, cK_chB.1, rfl, rfl⟩
theorem alt_ok {f i : Nat} {s : Lg} (h : Inv f i s) (hf : f ≤ 20) {j : Nat} (hj : j ≤ 20) (r : List UInt8) : LgOk (altS (sC s j) chB r).2 ∧ Sm (altS (sC s j) chB r).2.L (altS (sC s j) chB r).2.B := by
  obtain ⟨k0, b0, s0, _, _, _, _, _⟩ := sC_ok h hf hj
  rw [sC_eq h hj] at *
  have hg := gr_chB j (by omega)
  have hk : SzK (cK LA chB) := by
    intro k hk
    have : k = kA .nilIface .nilIface ∨ k = chB.kd := by simpa [cK, chB] using hk
    rcases this with rfl | rfl
    · exact ⟨by decide, fun f hf => by cases hf⟩
    · exact ⟨by decide, fun f hf => by cases hf⟩
  unfold altS stepS
  simp only [hg]
  refine ⟨⟨k0, b0, s0, hk, fun x hx => (by cases hx), cK_chB.2, by show -9223372036854775808 ≤ lfN (-1); decide, by show lfN (-1) < 9223372036854775808; decide⟩, ?_⟩
  refine ⟨by show (cK LA chB).length ≤ 1000; rw [cK_chB.1]; decide, by show 0 ≤ 1000; decide, ?_⟩
  intro k hk'
  have : k = kA .nilIface .nilIface ∨ k = chB.kd := by
    have hk2 : k ∈ cK LA chB := hk'
    simpa [cK, chB] using hk2
  rcases this with rfl | rfl <;> exact ⟨by decide, by decide⟩
end Go.Proofs.YtahamkajkkkjdaaGreatDoor
namespace Go.Proofs.YtahamkajkkkjdaaGreatDoor
open Go.RowKit Go.Extern.Stop Go.Stop Go.Extern
set_option linter.unusedVariables false
set_option linter.unusedSimpArgs false
abbrev Hnd (w : World) : Prop := w.cell? ⟨0, 0, none⟩ = some (.iface 155 (.agg #[.pointer (some ⟨7, 24, none⟩)]))
theorem asValue56 (t : Addr) (w : World) : (ReflectliteValue.unpack (.iface 87 (.pointer (some t)))).run Tryz.prog w = .ok (.agg #[.pointer (some ⟨7, 87, none⟩), .pointer (some ⟨w.heap.size, 0, none⟩), .int .u64 150]) (w.alloc (.cells #[.pointer (some t)] 87)) := by kernel_rfl
theorem asValue44 (x : Int) (w : World) : (ReflectliteValue.unpack (.iface 76 (.int .i64 x))).run Tryz.prog w = .ok (.agg #[.pointer (some ⟨7, 76, none⟩), .pointer (some ⟨w.heap.size, 0, none⟩), .int .u64 130]) (w.alloc (.cells #[.int .i64 x] 76)) := by kernel_rfl
theorem asType56 (a : Addr) (w : World) : (ReflectliteValue.methodAny (ReflectliteValue.valueError "reflectlite.Value.Type" 0) (fun t _ _ _ => ReflectliteType.toType t) #[(.agg #[.pointer (some ⟨7, 87, none⟩), .pointer (some a), .int .u64 150])]).run Tryz.prog w = .ok (.iface 155 (.agg #[.pointer (some ⟨7, 87, none⟩)])) w := by kernel_rfl
theorem asKind (h : Value) (w : World) : (Go.method 515 155 (.agg #[h]) "Kind").run Tryz.prog w = .ok (275, h) w := by kernel_rfl
theorem asElem (h : Value) (w : World) : (Go.method 515 155 (.agg #[h]) "Elem").run Tryz.prog w = .ok (290, .agg #[h]) w := by kernel_rfl
theorem asImpl (h : Value) (w : World) : (Go.method 515 155 (.agg #[h]) "Implements").run Tryz.prog w = .ok (291, .agg #[h]) w := by kernel_rfl
theorem asAssign (h : Value) (w : World) : (Go.method 515 155 (.agg #[h]) "AssignableTo").run Tryz.prog w = .ok (288, .agg #[h]) w := by kernel_rfl
theorem asKind56 (w : World) : ((ReflectliteType.abiMethod fun t => (fun a : Nat => Value.int IntKind.u8 (a : Int)) <$> Rtype.kind t) #[.pointer (some ⟨7, 87, none⟩)]).run Tryz.prog w = .ok (.int .u8 22) w := by kernel_rfl
theorem asKind44 (w : World) : ((ReflectliteType.abiMethod fun t => (fun a : Nat => Value.int IntKind.u8 (a : Int)) <$> Rtype.kind t) #[.pointer (some ⟨7, 76, none⟩)]).run Tryz.prog w = .ok (.int .u8 2) w := by kernel_rfl
theorem asElem56 (w : World) : (ReflectliteType.method ReflectliteType.elem #[(.agg #[.pointer (some ⟨7, 87, none⟩)])]).run Tryz.prog w = .ok (.iface 155 (.agg #[.pointer (some ⟨7, 76, none⟩)])) w := by kernel_rfl
theorem asImpl44 (w : World) : (ReflectliteType.relation "Implements" ReflectliteType.implements_ #[(.agg #[.pointer (some ⟨7, 76, none⟩)]), .iface 155 (.agg #[.pointer (some ⟨7, 24, none⟩)])]).run Tryz.prog w = .ok (.bool true) w := by kernel_rfl
theorem asTypeOf44 (v : Value) (w : World) : (ReflectliteType.typeOf #[.iface 76 v]).run Tryz.prog w = .ok (.iface 155 (.agg #[.pointer (some ⟨7, 76, none⟩)])) w := by kernel_rfl
theorem asAssign44 (w : World) : (ReflectliteType.relation "AssignableTo" ReflectliteType.assignableTo #[(.agg #[.pointer (some ⟨7, 76, none⟩)]), .iface 155 (.agg #[.pointer (some ⟨7, 76, none⟩)])]).run Tryz.prog w = .ok (.bool true) w := by kernel_rfl
theorem asParts56 (a : Addr) (w : World) : (ReflectliteValue.parts (.agg #[.pointer (some ⟨7, 87, none⟩), .pointer (some a), .int .u64 150])).run Tryz.prog w = .ok (some (87, a, 150)) w := by kernel_rfl
theorem asParts44 (a : Addr) (w : World) : (ReflectliteValue.parts (.agg #[.pointer (some ⟨7, 76, none⟩), .pointer (some a), .int .u64 130])).run Tryz.prog w = .ok (some (76, a, 130)) w := by kernel_rfl
theorem asParts44a (a : Addr) (w : World) : (ReflectliteValue.parts (.agg #[.pointer (some ⟨7, 76, none⟩), .pointer (some a), .int .u64 386])).run Tryz.prog w = .ok (some (76, a, 386)) w := by kernel_rfl
theorem asElemOf (w : World) : (Rtype.elem? 87).run Tryz.prog w = .ok (some 76) w := by kernel_rfl
theorem asMk (p : Addr) (w : World) : (ReflectliteValue.mk 76 p ReflectliteValue.flagAddr).run Tryz.prog w = .ok (.agg #[.pointer (some ⟨7, 76, none⟩), .pointer (some p), .int .u64 386]) w := by kernel_rfl
theorem asDirect (w : World) : (Rtype.directlyAssignable 76 76).run Tryz.prog w = .ok true w := by kernel_rfl
theorem asIsNil (a p : Addr) (W : World) (ha : W.cell? a = some (.pointer (some p))) :
    (ReflectliteValue.method (ReflectliteValue.valueError "reflectlite.Value.IsNil" 0) ReflectliteValue.isNil #[(.agg #[.pointer (some ⟨7, 87, none⟩), .pointer (some a), .int .u64 150])]).run Tryz.prog W = .ok (.bool false) W := by
  rw [show ReflectliteValue.method _ _ #[(.agg #[.pointer (some ⟨7, 87, none⟩), .pointer (some a), .int .u64 150])] = (ReflectliteValue.parts (.agg #[.pointer (some ⟨7, 87, none⟩), .pointer (some a), .int .u64 150]) >>= fun _ => _) from rfl]
  simp only [Sem.run_bind, asParts56, Result.andThen]
  simp [ReflectliteValue.isNil, loadVar, isAgg, underlying, Tryz.underlying87, ha, Result.andThen]
theorem asElemV (a p : Addr) (W : World) (ha : W.cell? a = some (.pointer (some p))) :
    (ReflectliteValue.method (ReflectliteValue.valueError "reflectlite.Value.Elem" 0) ReflectliteValue.elem #[(.agg #[.pointer (some ⟨7, 87, none⟩), .pointer (some a), .int .u64 150])]).run Tryz.prog W = .ok (.agg #[.pointer (some ⟨7, 76, none⟩), .pointer (some p), .int .u64 386]) W := by
  rw [show ReflectliteValue.method _ _ #[(.agg #[.pointer (some ⟨7, 87, none⟩), .pointer (some a), .int .u64 150])] = (ReflectliteValue.parts (.agg #[.pointer (some ⟨7, 87, none⟩), .pointer (some a), .int .u64 150]) >>= fun _ => _) from rfl]
  simp only [Sem.run_bind, asParts56, Result.andThen]
  simp [ReflectliteValue.elem, loadVar, isAgg, underlying, Tryz.underlying87, ha, Result.andThen, asElemOf, asMk]
theorem asSet (ta b : Addr) (x : Int) (old : Value) (W : World) (hb : W.cell? b = some (.int .i64 x)) (ht : W.cell? ta = some old) (hf : W.frozen? ta = false) :
    (ReflectliteValue.set #[(.agg #[.pointer (some ⟨7, 76, none⟩), .pointer (some ta), .int .u64 386]), (.agg #[.pointer (some ⟨7, 76, none⟩), .pointer (some b), .int .u64 130])]).run Tryz.prog W = .ok (.tuple #[]) (W.setCell ta (.int .i64 x)) := by
  rw [show ReflectliteValue.set #[(.agg #[.pointer (some ⟨7, 76, none⟩), .pointer (some ta), .int .u64 386]), (.agg #[.pointer (some ⟨7, 76, none⟩), .pointer (some b), .int .u64 130])] = (ReflectliteValue.parts (.agg #[.pointer (some ⟨7, 76, none⟩), .pointer (some ta), .int .u64 386]) >>= fun _ => ReflectliteValue.parts (.agg #[.pointer (some ⟨7, 76, none⟩), .pointer (some b), .int .u64 130]) >>= fun _ => _) from rfl]
  simp only [Sem.run_bind, asParts44a, asParts44, Result.andThen]
  simp [asParts44a, asParts44, ReflectliteValue.flagAddr, loadVar, isAgg, underlying, Tryz.underlying76, hb, Result.andThen, asDirect, storeVar, Value.cells, storeCells, Addr.add]
  rw [run_store Tryz.prog W ta _ _ (by rfl)]
  simp [ht, hf]
set_option maxHeartbeats 4000000 in
theorem as_hit (x : Int) (t : Addr) (old : Value) (w : World) (hg : Hnd w) (ht0 : w.cell? t = some old) (hf0 : w.frozen? t = false) :
    Calls Tryz.prog 22 #[.iface 76 (.int .i64 x), .iface 87 (.pointer (some t))] w fun ev w' => ev = .returned (.bool true) ∧ w' = ((((w.alloc (.cells #[.pointer (some t)] 87)).alloc (.cells #[.pointer (some ⟨7, 87, none⟩), .pointer (some ⟨w.heap.size, 0, none⟩), .int .u64 150] 106)).alloc (.cells #[.pointer (some ⟨7, 87, none⟩), .pointer (some ⟨w.heap.size, 0, none⟩), .int .u64 150] 106)).alloc (.cells #[.int .i64 x] 76)).setCell t (.int .i64 x) := by
  have h6 := @run_callFunc_extern Tryz.prog 33 _ (fun args => ReflectliteValue.unpack (args.getD 0 (.tuple #[]))) Tryz.func33 (by kernel_rfl) (by kernel_rfl) (by kernel_rfl) (by kernel_rfl)
  have h7 := @run_callFunc_extern Tryz.prog 34 _ (ReflectliteValue.methodAny (ReflectliteValue.valueError "reflectlite.Value.Type" 0) (fun t _ _ _ => ReflectliteType.toType t)) Tryz.func34 (by kernel_rfl) (by kernel_rfl) (by kernel_rfl) (by kernel_rfl)
  have h8 := @run_callFunc_extern Tryz.prog 35 _ (ReflectliteValue.method (ReflectliteValue.valueError "reflectlite.Value.IsNil" 0) ReflectliteValue.isNil) Tryz.func35 (by kernel_rfl) (by kernel_rfl) (by kernel_rfl) (by kernel_rfl)
  have h27 := @run_callFunc_extern Tryz.prog 275 _ (ReflectliteType.abiMethod fun t => do pure (.int .u8 (← Rtype.kind t))) Tryz.func275 (by kernel_rfl) (by kernel_rfl) (by kernel_rfl) (by kernel_rfl)
  have h37 := @run_callFunc_extern Tryz.prog 290 _ (ReflectliteType.method ReflectliteType.elem) Tryz.func290 (by kernel_rfl) (by kernel_rfl) (by kernel_rfl) (by kernel_rfl)
  have h38 := @run_callFunc_extern Tryz.prog 291 _ (ReflectliteType.relation "Implements" ReflectliteType.implements_) Tryz.func291 (by kernel_rfl) (by kernel_rfl) (by kernel_rfl) (by kernel_rfl)
  have h10 := @run_callFunc_extern Tryz.prog 58 _ ReflectliteType.typeOf Tryz.func58 (by kernel_rfl) (by kernel_rfl) (by kernel_rfl) (by kernel_rfl)
  have h35 := @run_callFunc_extern Tryz.prog 288 _ (ReflectliteType.relation "AssignableTo" ReflectliteType.assignableTo) Tryz.func288 (by kernel_rfl) (by kernel_rfl) (by kernel_rfl) (by kernel_rfl)
  have h11 := @run_callFunc_extern Tryz.prog 59 _ (ReflectliteValue.method (ReflectliteValue.valueError "reflectlite.Value.Elem" 0) ReflectliteValue.elem) Tryz.func59 (by kernel_rfl) (by kernel_rfl) (by kernel_rfl) (by kernel_rfl)
  have h12 := @run_callFunc_extern Tryz.prog 60 _ ReflectliteValue.set Tryz.func60 (by kernel_rfl) (by kernel_rfl) (by kernel_rfl) (by kernel_rfl)
  have tO := asTypeOf44
  have mA := asAssign
  have a25 := asAssign44
  have v25 := asValue44
  have f6 := asValue56
  have f7 := asType56
  have mK := asKind
  have mE := asElem
  have mI := asImpl
  have k27 := asKind56
  have k25 := asKind44
  have e27 := asElem56
  have i25 := asImpl44
  have n8 := asIsNil ⟨w.heap.size, 0, none⟩ t ((w.alloc (.cells #[.pointer (some t)] 87)).alloc (.cells #[.pointer (some ⟨7, 87, none⟩), .pointer (some ⟨w.heap.size, 0, none⟩), .int .u64 150] 106)) (by simp)
  have hlt : 0 < w.heap.size := by
    rcases Nat.eq_zero_or_pos w.heap.size with h0 | h
    · have hg' : w.cell? ⟨0, 0, none⟩ = _ := hg
      simp [World.cell?, h0] at hg'
    · exact h
  have hg2 : ((w.alloc (.cells #[.pointer (some t)] 87)).alloc (.cells #[.pointer (some ⟨7, 87, none⟩), .pointer (some ⟨w.heap.size, 0, none⟩), .int .u64 150] 106)).cell? ⟨0, 0, none⟩ = some (.iface 155 (.agg #[.pointer (some ⟨7, 24, none⟩)])) := by
    rw [World.cell?_alloc_lt _ _ ⟨0, 0, none⟩ (by simp), World.cell?_alloc_lt _ _ ⟨0, 0, none⟩ hlt]; exact hg
  have htl : t.block < w.heap.size := by
    rcases Nat.lt_or_ge t.block w.heap.size with h | h
    · exact h
    · simp [World.cell?, Array.getElem?_eq_none h] at ht0
  have el := asElemV ⟨w.heap.size, 0, none⟩ t (((w.alloc (.cells #[.pointer (some t)] 87)).alloc (.cells #[.pointer (some ⟨7, 87, none⟩), .pointer (some ⟨w.heap.size, 0, none⟩), .int .u64 150] 106)).alloc (.cells #[.pointer (some ⟨7, 87, none⟩), .pointer (some ⟨w.heap.size, 0, none⟩), .int .u64 150] 106)) (by rw [World.cell?_alloc_lt _ _ ⟨w.heap.size, 0, none⟩ (by simp; omega)]; simp)
  have st := asSet t ⟨w.heap.size + 1 + 1 + 1, 0, none⟩ x old ((((w.alloc (.cells #[.pointer (some t)] 87)).alloc (.cells #[.pointer (some ⟨7, 87, none⟩), .pointer (some ⟨w.heap.size, 0, none⟩), .int .u64 150] 106)).alloc (.cells #[.pointer (some ⟨7, 87, none⟩), .pointer (some ⟨w.heap.size, 0, none⟩), .int .u64 150] 106)).alloc (.cells #[.int .i64 x] 76))
    (by rw [World.cell?_alloc_at _ _ _ _ (by simp)]; rfl)
    (by rw [World.cell?_alloc_lt _ _ t (by simp; omega), World.cell?_alloc_lt _ _ t (by simp; omega), World.cell?_alloc_lt _ _ t (by simp; omega), World.cell?_alloc_lt _ _ t htl]; exact ht0)
    (by rw [World.frozen?_alloc_old _ _ t (by simp; omega), World.frozen?_alloc_old _ _ t (by simp; omega), World.frozen?_alloc_old _ _ t (by simp; omega), World.frozen?_alloc_old _ _ t (Nat.ne_of_lt htl)]; exact hf0)
  go_enter Tryz.func22, Tryz.ntmps22
  go_wp2
  refine wp_loop_rounds 1 ?_
  rw [rounds_succ]
  go_wp2
  go_ret
  exact ⟨rfl, rfl⟩
end Go.Proofs.YtahamkajkkkjdaaGreatDoor
namespace Go.Proofs.YtahamkajkkkjdaaGreatDoor
open Go.RowKit
set_option linter.unusedVariables false
set_option linter.unusedSimpArgs false
theorem told_nil (w : World) : Calls Tryz.prog 15 #[.nilIface] w fun e w' => e = .returned (.int .i64 0) ∧ w' = w := by
  go_enter Tryz.func15, Tryz.ntmps15
  go_wp2
  go_ret
  exact ⟨rfl, rfl⟩
set_option maxHeartbeats 1000000 in
theorem told_err (x : Int) (w : World) (hg : Hnd w) : Calls Tryz.prog 15 #[.iface 76 (.int .i64 x)] w fun e w' => e = .returned (.int .i64 x) ∧ Below w.heap.size w w' := by
  have hlt : 0 < w.heap.size := by
    rcases Nat.eq_zero_or_pos w.heap.size with h0 | h
    · have hg' : w.cell? ⟨0, 0, none⟩ = _ := hg
      simp [World.cell?, h0] at hg'
    · exact h
  have hgA : Hnd (w.alloc (.cells #[.int .i64 0] 76)) := by
    show (w.alloc (.cells #[.int .i64 0] 76)).cell? ⟨0, 0, none⟩ = _
    rw [World.cell?_alloc_lt _ _ ⟨0, 0, none⟩ hlt]; exact hg
  have htA : (w.alloc (.cells #[.int .i64 0] 76)).cell? ⟨w.heap.size, 0, none⟩ = some (.int .i64 0) := by simp
  have hfA : (w.alloc (.cells #[.int .i64 0] 76)).frozen? ⟨w.heap.size, 0, none⟩ = false := by simp
  clear hg hlt
  go_enter Tryz.func15, Tryz.ntmps15
  go_wp2_with (go_at_call 22; refine (as_hit x _ (.int .i64 0) _ hgA htA hfA).mono ?_; rintro e w' ⟨rfl, rfl⟩)
  go_ret
  refine ⟨rfl, ?_⟩
  exact (((((Below.refl _ w).alloc (Nat.le_refl _) _).alloc (by simp) _).alloc (by simp; omega) _).alloc (by simp; omega) _).alloc (by simp; omega) _
theorem told_any (x : Int) (w : World) (hg : Hnd w) : Calls Tryz.prog 15 #[errV x] w fun e w' => e = .returned (.int .i64 x) ∧ Below w.heap.size w w' := by
  by_cases h : x = 0
  · subst h
    refine (told_nil w).mono ?_
    rintro e w' ⟨rfl, rfl⟩
    exact ⟨rfl, Below.refl _ _⟩
  · rw [errV_ne h]; exact told_err x w hg
theorem error_eq (x y : Int) (w : World) (hg : Hnd w) : Calls Tryz.prog 7 #[errV x, .int .i64 y] w fun e w' => e = .returned (.bool (x == y)) ∧ Below w.heap.size w w' := by
  go_enter Tryz.func7, Tryz.ntmps7
  go_wp2_with (go_at_call 15; refine (told_any x _ hg).mono ?_; rintro e w' ⟨rfl, hb⟩)
  go_ret
  exact ⟨rfl, hb⟩
theorem Hnd.onB {w w' : World} (h : Hnd w) (hs : 7 ≤ w.heap.size) (hB : Below 7 w w') : Hnd w' := (hB.cell (p := ⟨0, 0, none⟩) (by decide)).trans h
section
variable {T : TypeId} {fn ft fb : FuncId}
set_option maxHeartbeats 8000000 in
set_option maxRecDepth 100000 in
theorem kind_walk (F : Fm T fn ft fb) {p : Addr} {w : World} {g off : Nat} {P0 P1 P2 P3 : World → Prop} (h0 : P0 w)
    (c1 : ∀ W, P0 W → Calls Tryz.prog ft #[.pointer (some p), .pointer (some ⟨g, off, none⟩)] W.drew (Ret P1))
    (c2 : ∀ W, P1 W → Calls Tryz.prog 122 #[.iface T (.pointer (some p)), .pointer (some ⟨g, off + 1, none⟩), .func (.methodOf 144 "kinshape/log.text") #[] #[]] W (Ret P2))
    (c3 : ∀ W, P2 W → Calls Tryz.prog 123 #[.iface T (.pointer (some p)), .pointer (some ⟨g, off + 2, none⟩), .func (.func 80) #[] #[]] W (Ret P3)) :
    Calls Tryz.prog 79 #[.iface T (.pointer (some p)), .pointer (some ⟨g, off, none⟩)] w (Ret P3) := by
  have xt := F.mt
  have yt := F.nt
  have zt := F.et
  go_enter Tryz.func79, Tryz.ntmps79
  go_upto_region 0 with fail
  go_region_law (go_simp; go_at_fn ft; refine (c1 _ h0).mono ?_; rintro e W1 ⟨rfl, h1⟩)
  go_wp2_with (first | (go_at_call 122; refine (c2 _ h1).mono ?_; rintro e W2 ⟨rfl, h2⟩; refine Hid.out ?_))
  refine Lib.hid ?_
  go_wp2_with (first | (go_at_call 123; refine (c3 _ h2).mono ?_; rintro e W3 ⟨rfl, h3⟩; refine Hid.out ?_))
  refine Lib.hid ?_
  go_wp2
  go_end0
  exact ⟨rfl, h3⟩
set_option maxHeartbeats 8000000 in
set_option maxRecDepth 100000 in
theorem ch1_walk (F : Fm T fn ft fb) {p : Addr} {w : World} {g off : Nat} {P0 P1 P2 : World → Prop} (h0 : P0 w)
    (c1 : ∀ W, P0 W → Calls Tryz.prog fn #[.pointer (some p), .pointer (some ⟨g, off, none⟩)] W.drew (Ret P1))
    (c2 : ∀ W, P1 W → Calls Tryz.prog 79 #[.iface T (.pointer (some p)), .pointer (some ⟨g, off + 2, none⟩)] W (Ret P2))
    (hk : ∀ W, P1 W → W.cell? ⟨g, off, none⟩ = some (.int .i64 1)) :
    Calls Tryz.prog 54 #[.iface T (.pointer (some p)), .pointer (some ⟨g, off, none⟩)] w (Ret P2) := by
  have xn := F.mn
  have yn := F.nn
  have zn := F.en
  go_enter Tryz.func54, Tryz.ntmps54
  go_upto_region 0 with fail
  go_region_law (go_simp; go_at_fn fn; refine (c1 _ h0).mono ?_; rintro e W1 ⟨rfl, h1⟩)
  have q1 := hk _ h1
  go_wp2_with (first | (go_at_call 79; refine (c2 _ h1).mono ?_; rintro e W2 ⟨rfl, h2⟩; refine Hid.out ?_))
  refine Lib.hid ?_
  go_wp2
  go_end0
  exact ⟨rfl, h2⟩
set_option maxHeartbeats 8000000 in
set_option maxRecDepth 100000 in
theorem ent1_walk (F : Fm T fn ft fb) {p : Addr} {w : World} {g off : Nat} {P0 P1 P2 : World → Prop} (h0 : P0 w)
    (c1 : ∀ W, P0 W → Calls Tryz.prog fb #[.pointer (some p), .pointer (some ⟨g, off, none⟩)] W.drew (Ret P1))
    (c2 : ∀ W, P1 W → Calls Tryz.prog 54 #[.iface T (.pointer (some p)), .pointer (some ⟨g, off + 2, none⟩)] W (Ret P2))
    (hk : ∀ W, P1 W → W.cell? ⟨g, off, none⟩ = some (.bool true)) :
    Calls Tryz.prog 31 #[.pointer (some ⟨g, off, none⟩), .iface T (.pointer (some p))] w (Ret P2) := by
  have xb := F.mb
  have yb := F.nb
  have zb := F.eb
  go_enter Tryz.func31, Tryz.ntmps31
  go_upto_region 0 with fail
  go_region_law (go_simp; go_at_fn fb; refine (c1 _ h0).mono ?_; rintro e W1 ⟨rfl, h1⟩)
  have q1 := hk _ h1
  go_wp2_with (first | (go_at_call 54; refine (c2 _ h1).mono ?_; rintro e W2 ⟨rfl, h2⟩; refine Hid.out ?_))
  refine Lib.hid ?_
  go_wp2
  go_end0
  exact ⟨rfl, h2⟩
end
section
variable {T : TypeId} {fn ft fb : FuncId}
set_option maxHeartbeats 8000000 in
set_option maxRecDepth 100000 in
theorem lsF_walk (F : Fm T fn ft fb) {p : Addr} {w : World} {g off n cp eb eo : Nat} {ao : Option Addr} {P : World → Prop} {Q : Nat → World → Prop} (hn : n ≤ 1099511627776) (ha : 0 < n → ao = some ⟨eb, eo, none⟩)
    (h0 : w.cell? ⟨g, off, none⟩ = some (.slice ao n cp))
    (c1 : Calls Tryz.prog fn #[.pointer (some p), .pointer (some ⟨w.heap.size, 0, none⟩)] (w.alloc (.cells #[.int .i64 (n : Int)] 3)) (Ret P))
    (hP : ∀ W, P W → W.cell? ⟨w.heap.size, 0, none⟩ = some (.int .i64 (n : Int)) ∧ W.cell? ⟨g, off, none⟩ = some (.slice ao n cp))
    (hQ0 : ∀ W q, P W → Q 0 (W.drewN q))
    (hQc : ∀ k W, Q k W → W.cell? ⟨g, off, none⟩ = some (.slice ao n cp))
    (c3 : ∀ k, k < n → ∀ W, Q k W → Calls Tryz.prog 80 #[.iface T (.pointer (some p)), .pointer (some ⟨eb, eo + k * 4, none⟩)] W (Ret (Q (k + 1)))) :
    Calls Tryz.prog 123 #[.iface T (.pointer (some p)), .pointer (some ⟨g, off, none⟩), .func (.func 80) #[] #[]] w (Ret (Q n)) := by
  have xn := F.mn
  have zn := F.en
  have xt := F.mt
  have zt := F.et
  have HA := Lib.hid ha
  go_enter Tryz.func123, Tryz.ntmps123
  go_wp2_with (first | (go_at_fn fn; refine c1.mono ?_; rintro e W1 ⟨rfl, h1⟩; refine Hid.out ?_))
  refine Lib.hid ?_
  obtain ⟨q1, q2⟩ := hP _ h1
  go_upto_region 2 with fail
  go_quiet (fail)
  have hq := hQ0 _ nq h1
  have q4 := hQc _ _ hq
  generalize W1.drewN nq = W2 at *
  clear q1 q2 h1 hQ0 hP c1 h0 ha
  go_wp2
  go_loopw [28] (fun i wr => ∃ k : Nat, k ≤ n ∧ i = .int .i64 (k : Int) ∧ Q k wr) (fun i wr => n - (intOf i).toNat)
  case atStart => exact ⟨0, Nat.zero_le _, rfl, hq⟩
  case round =>
    obtain ⟨k, hk, rfl, hQk⟩ := hrel
    have q3 := hQc k wr hQk
    by_cases hlt : k < n
    · have c := c3 k hlt wr hQk
      obtain rfl := HA.out (by omega)
      have hlt2 : (k : Int) < (n : Int) := by omega
      go_wp2_with (first | (go_at_call 80; refine c.mono ?_; rintro e W3 ⟨rfl, h3⟩))
      go_roundw
      case rel => exact ⟨k + 1, by omega, by go_num, h3⟩
      case measure => simp [intOf]; omega
    · go_wp2
      go_end0
      obtain rfl : k = n := by omega
      exact ⟨rfl, hQk⟩
set_option maxHeartbeats 8000000 in
set_option maxRecDepth 100000 in
theorem lsS_walk (F : Fm T fn ft fb) {p : Addr} {w : World} {g off n cp eb eo : Nat} {ao : Option Addr} {P : World → Prop} {Q : Nat → World → Prop} (hn : n ≤ 1099511627776) (ha : 0 < n → ao = some ⟨eb, eo, none⟩)
    (h0 : w.cell? ⟨g, off, none⟩ = some (.slice ao n cp))
    (c1 : Calls Tryz.prog fn #[.pointer (some p), .pointer (some ⟨w.heap.size, 0, none⟩)] (w.alloc (.cells #[.int .i64 (n : Int)] 3)) (Ret P))
    (hP : ∀ W, P W → W.cell? ⟨w.heap.size, 0, none⟩ = some (.int .i64 (n : Int)) ∧ W.cell? ⟨g, off, none⟩ = some (.slice ao n cp))
    (hQ0 : ∀ W q, P W → Q 0 (W.drewN q))
    (hQc : ∀ k W, Q k W → W.cell? ⟨g, off, none⟩ = some (.slice ao n cp))
    (c3 : ∀ k, k < n → ∀ W, Q k W → Calls Tryz.prog ft #[.pointer (some p), .pointer (some ⟨eb, eo + k, none⟩)] W (Ret (Q (k + 1)))) :
    Calls Tryz.prog 122 #[.iface T (.pointer (some p)), .pointer (some ⟨g, off, none⟩), .func (.methodOf 144 "kinshape/log.text") #[] #[]] w (Ret (Q n)) := by
  have xn := F.mn
  have zn := F.en
  have xt := F.mt
  have zt := F.et
  have HA := Lib.hid ha
  go_enter Tryz.func122, Tryz.ntmps122
  go_wp2_with (first | (go_at_fn fn; refine c1.mono ?_; rintro e W1 ⟨rfl, h1⟩; refine Hid.out ?_))
  refine Lib.hid ?_
  obtain ⟨q1, q2⟩ := hP _ h1
  go_upto_region 2 with fail
  go_quiet (fail)
  have hq := hQ0 _ nq h1
  have q4 := hQc _ _ hq
  generalize W1.drewN nq = W2 at *
  clear q1 q2 h1 hQ0 hP c1 h0 ha
  go_wp2
  go_loopw [28] (fun i wr => ∃ k : Nat, k ≤ n ∧ i = .int .i64 (k : Int) ∧ Q k wr) (fun i wr => n - (intOf i).toNat)
  case atStart => exact ⟨0, Nat.zero_le _, rfl, hq⟩
  case round =>
    obtain ⟨k, hk, rfl, hQk⟩ := hrel
    have q3 := hQc k wr hQk
    by_cases hlt : k < n
    · have c := c3 k hlt wr hQk
      obtain rfl := HA.out (by omega)
      have hlt2 : (k : Int) < (n : Int) := by omega
      go_wp2_with (first | (go_at_fn ft; refine c.mono ?_; rintro e W3 ⟨rfl, h3⟩))
      go_roundw
      case rel => exact ⟨k + 1, by omega, by go_num, h3⟩
      case measure => simp [intOf]; omega
    · go_wp2
      go_end0
      obtain rfl : k = n := by omega
      exact ⟨rfl, hQk⟩
end
end Go.Proofs.YtahamkajkkkjdaaGreatDoor
