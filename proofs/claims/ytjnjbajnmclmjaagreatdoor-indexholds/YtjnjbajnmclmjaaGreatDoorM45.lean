/-
  What errors.As, plain.Told and kinsame.Error give of package api's errors.
-/
import Derived.Test.YtjnjbajnmclmjaaGreatDoorM01
import Derived.LaidEql
import Derived.Stop.Asserts
import Derived.RowKitTokens
import Derived.Laws.Cover1
import Derived.Test.YtjnjbajnmclmjaaGreatDoorM43
import Derived.Test.YtjnjbajnmclmjaaGreatDoorM44
import Derived.Deep.DeepCutAuto
import Derived.Deep.RegionLaw
import Derived.Deep.RegionHeldLaw
namespace Go.Proofs.YtjnjbajnmclmjaaGreatDoor
open Go.RowKit Go.Extern.Stop Go.Stop Go.Extern
set_option linter.unusedVariables false
set_option linter.unusedSimpArgs false

/-- The variable errors.errorType is as it was laid. -/
abbrev Hnd (w : World) : Prop := w.cell? ⟨0, 0, none⟩ = some (.iface 204 (.agg #[.pointer (some ⟨2, 47, none⟩)]))

theorem asValue56 (t : Addr) (w : World) : (ReflectliteValue.unpack (.iface 135 (.pointer (some t)))).run Tryz.prog w = .ok (.agg #[.pointer (some ⟨2, 135, none⟩), .pointer (some ⟨w.heap.size, 0, none⟩), .int .u64 150]) (w.alloc (.cells #[.pointer (some t)] 135)) := by kernel_rfl
theorem asValue44 (x : Int) (w : World) : (ReflectliteValue.unpack (.iface 92 (.int .i64 x))).run Tryz.prog w = .ok (.agg #[.pointer (some ⟨2, 92, none⟩), .pointer (some ⟨w.heap.size, 0, none⟩), .int .u64 130]) (w.alloc (.cells #[.int .i64 x] 92)) := by kernel_rfl
theorem asType56 (a : Addr) (w : World) : (ReflectliteValue.methodAny (ReflectliteValue.valueError "reflectlite.Value.Type" 0) (fun t _ _ _ => ReflectliteType.toType t) #[(.agg #[.pointer (some ⟨2, 135, none⟩), .pointer (some a), .int .u64 150])]).run Tryz.prog w = .ok (.iface 204 (.agg #[.pointer (some ⟨2, 135, none⟩)])) w := by kernel_rfl
theorem asKind (h : Value) (w : World) : (Go.method 385 204 (.agg #[h]) "Kind").run Tryz.prog w = .ok (164, h) w := by kernel_rfl
theorem asElem (h : Value) (w : World) : (Go.method 385 204 (.agg #[h]) "Elem").run Tryz.prog w = .ok (174, .agg #[h]) w := by kernel_rfl
theorem asImpl (h : Value) (w : World) : (Go.method 385 204 (.agg #[h]) "Implements").run Tryz.prog w = .ok (175, .agg #[h]) w := by kernel_rfl
theorem asAssign (h : Value) (w : World) : (Go.method 385 204 (.agg #[h]) "AssignableTo").run Tryz.prog w = .ok (172, .agg #[h]) w := by kernel_rfl
theorem asKind56 (w : World) : ((ReflectliteType.abiMethod fun t => (fun a : Nat => Value.int IntKind.u8 (a : Int)) <$> Rtype.kind t) #[.pointer (some ⟨2, 135, none⟩)]).run Tryz.prog w = .ok (.int .u8 22) w := by kernel_rfl
theorem asKind44 (w : World) : ((ReflectliteType.abiMethod fun t => (fun a : Nat => Value.int IntKind.u8 (a : Int)) <$> Rtype.kind t) #[.pointer (some ⟨2, 92, none⟩)]).run Tryz.prog w = .ok (.int .u8 2) w := by kernel_rfl
theorem asElem56 (w : World) : (ReflectliteType.method ReflectliteType.elem #[(.agg #[.pointer (some ⟨2, 135, none⟩)])]).run Tryz.prog w = .ok (.iface 204 (.agg #[.pointer (some ⟨2, 92, none⟩)])) w := by kernel_rfl
theorem asImpl44 (w : World) : (ReflectliteType.relation "Implements" ReflectliteType.implements_ #[(.agg #[.pointer (some ⟨2, 92, none⟩)]), .iface 204 (.agg #[.pointer (some ⟨2, 47, none⟩)])]).run Tryz.prog w = .ok (.bool true) w := by kernel_rfl
theorem asTypeOf44 (v : Value) (w : World) : (ReflectliteType.typeOf #[.iface 92 v]).run Tryz.prog w = .ok (.iface 204 (.agg #[.pointer (some ⟨2, 92, none⟩)])) w := by kernel_rfl
theorem asAssign44 (w : World) : (ReflectliteType.relation "AssignableTo" ReflectliteType.assignableTo #[(.agg #[.pointer (some ⟨2, 92, none⟩)]), .iface 204 (.agg #[.pointer (some ⟨2, 92, none⟩)])]).run Tryz.prog w = .ok (.bool true) w := by kernel_rfl
theorem asParts56 (a : Addr) (w : World) : (ReflectliteValue.parts (.agg #[.pointer (some ⟨2, 135, none⟩), .pointer (some a), .int .u64 150])).run Tryz.prog w = .ok (some (135, a, 150)) w := by kernel_rfl
theorem asParts44 (a : Addr) (w : World) : (ReflectliteValue.parts (.agg #[.pointer (some ⟨2, 92, none⟩), .pointer (some a), .int .u64 130])).run Tryz.prog w = .ok (some (92, a, 130)) w := by kernel_rfl
theorem asParts44a (a : Addr) (w : World) : (ReflectliteValue.parts (.agg #[.pointer (some ⟨2, 92, none⟩), .pointer (some a), .int .u64 386])).run Tryz.prog w = .ok (some (92, a, 386)) w := by kernel_rfl
theorem asElemOf (w : World) : (Rtype.elem? 135).run Tryz.prog w = .ok (some 92) w := by kernel_rfl
theorem asMk (p : Addr) (w : World) : (ReflectliteValue.mk 92 p ReflectliteValue.flagAddr).run Tryz.prog w = .ok (.agg #[.pointer (some ⟨2, 92, none⟩), .pointer (some p), .int .u64 386]) w := by kernel_rfl
theorem asDirect (w : World) : (Rtype.directlyAssignable 92 92).run Tryz.prog w = .ok true w := by kernel_rfl

theorem asIsNil (a p : Addr) (W : World) (ha : W.cell? a = some (.pointer (some p))) :
    (ReflectliteValue.method (ReflectliteValue.valueError "reflectlite.Value.IsNil" 0) ReflectliteValue.isNil #[(.agg #[.pointer (some ⟨2, 135, none⟩), .pointer (some a), .int .u64 150])]).run Tryz.prog W = .ok (.bool false) W := by
  rw [show ReflectliteValue.method _ _ #[(.agg #[.pointer (some ⟨2, 135, none⟩), .pointer (some a), .int .u64 150])] = (ReflectliteValue.parts (.agg #[.pointer (some ⟨2, 135, none⟩), .pointer (some a), .int .u64 150]) >>= fun _ => _) from rfl]
  simp only [Sem.run_bind, asParts56, Result.andThen]
  simp [ReflectliteValue.isNil, loadVar, isAgg, underlying, Tryz.underlying135, ha, Result.andThen]
theorem asElemV (a p : Addr) (W : World) (ha : W.cell? a = some (.pointer (some p))) :
    (ReflectliteValue.method (ReflectliteValue.valueError "reflectlite.Value.Elem" 0) ReflectliteValue.elem #[(.agg #[.pointer (some ⟨2, 135, none⟩), .pointer (some a), .int .u64 150])]).run Tryz.prog W = .ok (.agg #[.pointer (some ⟨2, 92, none⟩), .pointer (some p), .int .u64 386]) W := by
  rw [show ReflectliteValue.method _ _ #[(.agg #[.pointer (some ⟨2, 135, none⟩), .pointer (some a), .int .u64 150])] = (ReflectliteValue.parts (.agg #[.pointer (some ⟨2, 135, none⟩), .pointer (some a), .int .u64 150]) >>= fun _ => _) from rfl]
  simp only [Sem.run_bind, asParts56, Result.andThen]
  simp [ReflectliteValue.elem, loadVar, isAgg, underlying, Tryz.underlying135, ha, Result.andThen, asElemOf, asMk]
theorem asSet (ta b : Addr) (x : Int) (old : Value) (W : World) (hb : W.cell? b = some (.int .i64 x)) (ht : W.cell? ta = some old) (hf : W.frozen? ta = false) :
    (ReflectliteValue.set #[(.agg #[.pointer (some ⟨2, 92, none⟩), .pointer (some ta), .int .u64 386]), (.agg #[.pointer (some ⟨2, 92, none⟩), .pointer (some b), .int .u64 130])]).run Tryz.prog W = .ok (.tuple #[]) (W.setCell ta (.int .i64 x)) := by
  rw [show ReflectliteValue.set #[(.agg #[.pointer (some ⟨2, 92, none⟩), .pointer (some ta), .int .u64 386]), (.agg #[.pointer (some ⟨2, 92, none⟩), .pointer (some b), .int .u64 130])] = (ReflectliteValue.parts (.agg #[.pointer (some ⟨2, 92, none⟩), .pointer (some ta), .int .u64 386]) >>= fun _ => ReflectliteValue.parts (.agg #[.pointer (some ⟨2, 92, none⟩), .pointer (some b), .int .u64 130]) >>= fun _ => _) from rfl]
  simp only [Sem.run_bind, asParts44a, asParts44, Result.andThen]
  simp [asParts44a, asParts44, ReflectliteValue.flagAddr, loadVar, isAgg, underlying, Tryz.underlying92, hb, Result.andThen, asDirect, storeVar, Value.cells, storeCells, Addr.add]
  rw [run_store Tryz.prog W ta _ _ (by rfl)]
  simp [ht, hf]

set_option maxHeartbeats 4000000 in
theorem as_hit (x : Int) (t : Addr) (old : Value) (w : World) (hg : Hnd w) (ht0 : w.cell? t = some old) (hf0 : w.frozen? t = false) :
    Calls Tryz.prog 47 #[.iface 92 (.int .i64 x), .iface 135 (.pointer (some t))] w fun ev w' => ev = .returned (.bool true) ∧ w' = ((((w.alloc (.cells #[.pointer (some t)] 135)).alloc (.cells #[.pointer (some ⟨2, 135, none⟩), .pointer (some ⟨w.heap.size, 0, none⟩), .int .u64 150] 172)).alloc (.cells #[.pointer (some ⟨2, 135, none⟩), .pointer (some ⟨w.heap.size, 0, none⟩), .int .u64 150] 172)).alloc (.cells #[.int .i64 x] 92)).setCell t (.int .i64 x) := by
  have h6 := @run_callFunc_extern Tryz.prog 71 _ (fun args => ReflectliteValue.unpack (args.getD 0 (.tuple #[]))) Tryz.func71 (by kernel_rfl) (by kernel_rfl) (by kernel_rfl) (by kernel_rfl)
  have h7 := @run_callFunc_extern Tryz.prog 72 _ (ReflectliteValue.methodAny (ReflectliteValue.valueError "reflectlite.Value.Type" 0) (fun t _ _ _ => ReflectliteType.toType t)) Tryz.func72 (by kernel_rfl) (by kernel_rfl) (by kernel_rfl) (by kernel_rfl)
  have h8 := @run_callFunc_extern Tryz.prog 73 _ (ReflectliteValue.method (ReflectliteValue.valueError "reflectlite.Value.IsNil" 0) ReflectliteValue.isNil) Tryz.func73 (by kernel_rfl) (by kernel_rfl) (by kernel_rfl) (by kernel_rfl)
  have h27 := @run_callFunc_extern Tryz.prog 164 _ (ReflectliteType.abiMethod fun t => do pure (.int .u8 (← Rtype.kind t))) Tryz.func164 (by kernel_rfl) (by kernel_rfl) (by kernel_rfl) (by kernel_rfl)
  have h37 := @run_callFunc_extern Tryz.prog 174 _ (ReflectliteType.method ReflectliteType.elem) Tryz.func174 (by kernel_rfl) (by kernel_rfl) (by kernel_rfl) (by kernel_rfl)
  have h38 := @run_callFunc_extern Tryz.prog 175 _ (ReflectliteType.relation "Implements" ReflectliteType.implements_) Tryz.func175 (by kernel_rfl) (by kernel_rfl) (by kernel_rfl) (by kernel_rfl)
  have h10 := @run_callFunc_extern Tryz.prog 99 _ ReflectliteType.typeOf Tryz.func99 (by kernel_rfl) (by kernel_rfl) (by kernel_rfl) (by kernel_rfl)
  have h35 := @run_callFunc_extern Tryz.prog 172 _ (ReflectliteType.relation "AssignableTo" ReflectliteType.assignableTo) Tryz.func172 (by kernel_rfl) (by kernel_rfl) (by kernel_rfl) (by kernel_rfl)
  have h11 := @run_callFunc_extern Tryz.prog 100 _ (ReflectliteValue.method (ReflectliteValue.valueError "reflectlite.Value.Elem" 0) ReflectliteValue.elem) Tryz.func100 (by kernel_rfl) (by kernel_rfl) (by kernel_rfl) (by kernel_rfl)
  have h12 := @run_callFunc_extern Tryz.prog 101 _ ReflectliteValue.set Tryz.func101 (by kernel_rfl) (by kernel_rfl) (by kernel_rfl) (by kernel_rfl)
  have tO := asTypeOf44
  have mA := asAssign
  have a25 := asAssign44
  have v25 := asValue44
  have f6 := asValue56
  have f7 := asType56
  have mK := asKind
  have mE := asElem
  have mI := asImpl
  have k27 := asKind56
  have k25 := asKind44
  have e27 := asElem56
  have i25 := asImpl44
  have n8 := asIsNil ⟨w.heap.size, 0, none⟩ t ((w.alloc (.cells #[.pointer (some t)] 135)).alloc (.cells #[.pointer (some ⟨2, 135, none⟩), .pointer (some ⟨w.heap.size, 0, none⟩), .int .u64 150] 172)) (by simp)
  have hlt : 0 < w.heap.size := by
    rcases Nat.eq_zero_or_pos w.heap.size with h0 | h
    · have hg' : w.cell? ⟨0, 0, none⟩ = _ := hg
      simp [World.cell?, h0] at hg'
    · exact h
  have hg2 : ((w.alloc (.cells #[.pointer (some t)] 135)).alloc (.cells #[.pointer (some ⟨2, 135, none⟩), .pointer (some ⟨w.heap.size, 0, none⟩), .int .u64 150] 172)).cell? ⟨0, 0, none⟩ = some (.iface 204 (.agg #[.pointer (some ⟨2, 47, none⟩)])) := by
    rw [World.cell?_alloc_lt _ _ ⟨0, 0, none⟩ (by simp), World.cell?_alloc_lt _ _ ⟨0, 0, none⟩ hlt]; exact hg
  have htl : t.block < w.heap.size := by
    rcases Nat.lt_or_ge t.block w.heap.size with h | h
    · exact h
    · simp [World.cell?, Array.getElem?_eq_none h] at ht0
  have el := asElemV ⟨w.heap.size, 0, none⟩ t (((w.alloc (.cells #[.pointer (some t)] 135)).alloc (.cells #[.pointer (some ⟨2, 135, none⟩), .pointer (some ⟨w.heap.size, 0, none⟩), .int .u64 150] 172)).alloc (.cells #[.pointer (some ⟨2, 135, none⟩), .pointer (some ⟨w.heap.size, 0, none⟩), .int .u64 150] 172)) (by rw [World.cell?_alloc_lt _ _ ⟨w.heap.size, 0, none⟩ (by simp; omega)]; simp)
  have st := asSet t ⟨w.heap.size + 1 + 1 + 1, 0, none⟩ x old ((((w.alloc (.cells #[.pointer (some t)] 135)).alloc (.cells #[.pointer (some ⟨2, 135, none⟩), .pointer (some ⟨w.heap.size, 0, none⟩), .int .u64 150] 172)).alloc (.cells #[.pointer (some ⟨2, 135, none⟩), .pointer (some ⟨w.heap.size, 0, none⟩), .int .u64 150] 172)).alloc (.cells #[.int .i64 x] 92))
    (by rw [World.cell?_alloc_at _ _ _ _ (by simp)]; rfl)
    (by rw [World.cell?_alloc_lt _ _ t (by simp; omega), World.cell?_alloc_lt _ _ t (by simp; omega), World.cell?_alloc_lt _ _ t (by simp; omega), World.cell?_alloc_lt _ _ t htl]; exact ht0)
    (by rw [World.frozen?_alloc_old _ _ t (by simp; omega), World.frozen?_alloc_old _ _ t (by simp; omega), World.frozen?_alloc_old _ _ t (by simp; omega), World.frozen?_alloc_old _ _ t (Nat.ne_of_lt htl)]; exact hf0)
  go_enter Tryz.func47, Tryz.ntmps47
  go_wp2
  refine wp_loop_rounds 1 ?_
  rw [rounds_succ]
  go_wp2
  go_ret
  exact ⟨rfl, rfl⟩
end Go.Proofs.YtjnjbajnmclmjaaGreatDoor

/-
  What plain.Told and kinsame.Error give of package api's errors, and the specification's Order of values.
-/
namespace Go.Proofs.YtjnjbajnmclmjaaGreatDoor
open Go.RowKit
set_option linter.unusedVariables false
set_option linter.unusedSimpArgs false

theorem told_nil (w : World) : Calls Tryz.prog 29 #[.nilIface] w fun e w' => e = .returned (.int .i64 0) ∧ w' = w := by
  go_enter Tryz.func29, Tryz.ntmps29
  go_wp2
  go_ret
  exact ⟨rfl, rfl⟩
set_option maxHeartbeats 1000000 in
theorem told_err (x : Int) (w : World) (hg : Hnd w) : Calls Tryz.prog 29 #[.iface 92 (.int .i64 x)] w fun e w' => e = .returned (.int .i64 x) ∧ Below w.heap.size w w' := by
  have hlt : 0 < w.heap.size := by
    rcases Nat.eq_zero_or_pos w.heap.size with h0 | h
    · have hg' : w.cell? ⟨0, 0, none⟩ = _ := hg
      simp [World.cell?, h0] at hg'
    · exact h
  have hgA : Hnd (w.alloc (.cells #[.int .i64 0] 92)) := by
    show (w.alloc (.cells #[.int .i64 0] 92)).cell? ⟨0, 0, none⟩ = _
    rw [World.cell?_alloc_lt _ _ ⟨0, 0, none⟩ hlt]; exact hg
  have htA : (w.alloc (.cells #[.int .i64 0] 92)).cell? ⟨w.heap.size, 0, none⟩ = some (.int .i64 0) := by simp
  have hfA : (w.alloc (.cells #[.int .i64 0] 92)).frozen? ⟨w.heap.size, 0, none⟩ = false := by simp
  clear hg hlt
  go_enter Tryz.func29, Tryz.ntmps29
  go_wp2_with (go_at_call 47; refine (as_hit x _ (.int .i64 0) _ hgA htA hfA).mono ?_; rintro e w' ⟨rfl, rfl⟩)
  go_ret
  refine ⟨rfl, ?_⟩
  exact (((((Below.refl _ w).alloc (Nat.le_refl _) _).alloc (by simp) _).alloc (by simp; omega) _).alloc (by simp; omega) _).alloc (by simp; omega) _
theorem told_any (x : Int) (w : World) (hg : Hnd w) : Calls Tryz.prog 29 #[errV x] w fun e w' => e = .returned (.int .i64 x) ∧ Below w.heap.size w w' := by
  by_cases h : x = 0
  · subst h
    refine (told_nil w).mono ?_
    rintro e w' ⟨rfl, rfl⟩
    exact ⟨rfl, Below.refl _ _⟩
  · rw [errV_ne h]; exact told_err x w hg
theorem error_any (x : Int) (w : World) (hg : Hnd w) : Calls Tryz.prog 11 #[errV x, .int .i64 x] w fun e w' => e = .returned (.bool true) ∧ Below w.heap.size w w' := by
  go_enter Tryz.func11, Tryz.ntmps11
  go_wp2_with (go_at_call 29; refine (told_any x _ hg).mono ?_; rintro e w' ⟨rfl, hb⟩)
  go_ret
  exact ⟨ret_bool (by simp), hb⟩

end Go.Proofs.YtjnjbajnmclmjaaGreatDoor

/-
  The walk of the law IndexHolds: what its calls give.
-/
namespace Go.Proofs.YtjnjbajnmclmjaaGreatDoor
open Go.RowKit
set_option linter.unusedVariables false
set_option linter.unusedSimpArgs false

theorem Hnd.onH {w w' : World} (h : Hnd w) (hB : Below w.heap.size w w') : Hnd w' := (hB.cell (p := ⟨0, 0, none⟩) (cell_lt h)).trans h
/-- What is known of a node that the index tells. -/
def RdOk (L : List Kd) (N : List Nd) (nm fd : Nm) (id : Int) (kd : Nm) (rc : List Pr) : Prop :=
  (Sz rc ∧ rErr rc = 0 ∧ VOk rc ∧ rc.length ≤ maxLen) ∧ isErr L kd nm = 0 ∧ isKin L kd nm = true ∧ ∀ t x s, (∃ p ∈ rc, p.nm.toList = fd ∧ p.t = t ∧ p.n = x ∧ p.s = s) → (keyA (hpO L L) (tabK (hpO L L) N).2 (bs nm) fd t x s).2 = 0 → (keyA (hpO L L) (tabK (hpO L L) N).2 (bs nm) fd t x s).1 = id
theorem inode_any {L : List Kd} {B : List Bd} {N M : List Nd} {T : List Te} (hcf : cfE L B N T = 0) (hM : cN M = N) {nm : Nm} (fd : Nm) {id : Int} (hid : id ∈ rowK (tabK (hpO L L) N) nm) {un ut : Value} {W : World} (hN : IsN W un M) (hT : IsT W ut T) :
    Calls Tryz.prog 13 #[.agg #[un, ut], .int .i64 id] W fun e w' => ∃ kd a l c rc, e = .returned (.tuple #[.agg #[.int .i64 id, .string (bs kd), .slice a l c], .nilIface]) ∧ (OwnRc w' 0 (.slice a l c) rc ∧ RdOk L N nm fd id kd rc) ∧ Below W.heap.size W w' := by
  have hcM : cfE L B M T = 0 := by rw [← cfE_c, hM]; exact hcf
  obtain ⟨hs0, hg0, _⟩ := cfE_zero hcM
  obtain ⟨zM, zT⟩ := gErr_sz hg0
  have htk : tabK (hpO L L) N = tabK (hpO L L) M := by rw [← hM, tabK_c]
  rw [htk, (row_cnt hcM nm).1] at hid
  obtain ⟨n0, hn0, e0⟩ := List.mem_map.1 hid
  obtain ⟨hn0m, hn0k⟩ := List.mem_filter.1 hn0
  have hh : hasId M id = true := by
    unfold hasId
    rw [List.any_eq_true]
    exact ⟨n0, hn0m, by simpa using e0⟩
  refine (node_any hN hT zM zT hg0 (gErr_rc8 hg0) id).mono ?_
  rintro e w' ⟨i, k, a, l, c, rfl, h1, hB⟩
  obtain ⟨j, n, hj, hx, rfl, rfl, hR⟩ := h1 hh
  have hnid : n.id = id := idxN_id id M 0 j n (by simpa using hx) hj
  have hnm := List.mem_of_getElem? hj
  have hsrt := gErr_srt hg0
  have hnn : n = n0 := by
    obtain ⟨j0, hj0⟩ := List.mem_iff_getElem?.1 hn0m
    unfold SrtN at hsrt
    rw [List.pairwise_iff_getElem] at hsrt
    obtain ⟨q1, rfl⟩ := List.getElem?_eq_some_iff.1 hj
    obtain ⟨q2, rfl⟩ := List.getElem?_eq_some_iff.1 hj0
    rcases Nat.lt_trichotomy j j0 with h | h | h
    · have := hsrt j j0 q1 q2 h; omega
    · subst h; rfl
    · have := hsrt j0 j q2 q1 h; omega
  subst hnn
  obtain ⟨kd, hkd, k1, k2⟩ := round_kin hcM hj hn0k
  have hrc := (chkN_rc M none (gErr_lens hg0).2.2.1 n hnm).2.2
  have hle := rErr_le hrc
  refine ⟨kd, a, l, c, n.rc, ?_, ⟨own_base hR (Nat.zero_le _), ⟨⟨sz_of hrc, hrc, rErr_ok hrc (sz_of hrc), by unfold maxLen; omega⟩, k1, k2, fun t x s hp h0 => ?_⟩⟩, hB⟩
  · rw [fE_ok hg0 hh, errV_0, hnid, hkd]
  · rw [htk] at h0 ⊢
    rw [round_key hcM hj hn0k hp h0, hnid]
theorem ix_kind_yes {w : World} {base b : Nat} {L : List Kd} {B : List Bd} {N : List Nd} {T : List Te} (h : Ix w base b L B N T) (hcf : cfE L B N T = 0) (hz : SzK L) {nm : Nm} (hk : nm.length ≤ maxLen) {p : Hp} (hp : hpO L L (bs nm) = some p) :
    Calls Tryz.prog 10 #[.pointer (some ⟨b, 0, none⟩), .string (bs nm)] w fun e w' => ∃ a c, e = .returned (.tuple #[.slice a (rowK (tabK (hpO L L) N) nm).length c, .nilIface]) ∧ w'.ownsRow w.heap.size 3 1 (.slice a (rowK (tabK (hpO L L) N) nm).length c) (rowK (tabK (hpO L L) N) nm).length (cellsI (rowK (tabK (hpO L L) N) nm)) ∧ Below w.heap.size w w' := by
  obtain ⟨hs0, hg0, _⟩ := cfE_zero hcf
  obtain ⟨hk0, _, _⟩ := sErr_good.1 hs0
  have hH := hpO_ok hk0 hz
  obtain ⟨vk, vb, vn, vt, s, m1, m2, m3, K, M, i1, _, _, hM, _, k1, _, _⟩ := h
  have hl : ∀ x, (((tabK (hpO L L) N).1 x).getD []).length ≤ 1000000 := fun x => by
    have := tabK_len hH N (fun _ => none, fun _ => none) 0 (fun _ => Nat.le_refl _) x
    have h60 := (gErr_lens hg0).1
    unfold tabK
    omega
  refine (ikind_yes i1 hM (k1.mapR hl) (by rw [bs_size]; exact hk) hp).mono ?_
  rintro e w' ⟨u, rfl, ho, hB⟩
  obtain ⟨a, c, rfl⟩ := own_slice ho
  exact ⟨a, c, rfl, ho, hB⟩
theorem ix_kind_no {w : World} {base b : Nat} {L : List Kd} {B : List Bd} {N : List Nd} {T : List Te} (h : Ix w base b L B N T) {nm : Nm} (hk : nm.length ≤ maxLen) (hp : hpO L L (bs nm) = none) :
    Calls Tryz.prog 10 #[.pointer (some ⟨b, 0, none⟩), .string (bs nm)] w fun e w' => e = .returned (.tuple #[.slice none 0 0, .iface 92 (.int .i64 5)]) ∧ Below w.heap.size w w' := by
  obtain ⟨vk, vb, vn, vt, s, m1, m2, m3, K, M, i1, _, _, hM, _, _, _, _⟩ := h
  exact ikind_no i1 hM (by rw [bs_size]; exact hk) hp
theorem ix_graph {w : World} {base b : Nat} {L : List Kd} {B : List Bd} {N : List Nd} {T : List Te} (h : Ix w base b L B N T) (hg : gErr N T = 0) :
    Calls Tryz.prog 8 #[.pointer (some ⟨b, 0, none⟩)] w fun e w' => ∃ a n c a' n' c' M, e = .returned (.agg #[.slice a n c, .slice a' n' c']) ∧ (cN M = N ∧ OwnNs w' w.heap.size (.slice a n c) M ∧ OwnTs w' w.heap.size (.slice a' n' c') T) ∧ Below w.heap.size w w' := by
  obtain ⟨vk, vb, vn, vt, s, m1, m2, m3, K, M, i1, _, _, _, hN, _, _, _⟩ := h
  have hgM : gErr M T = 0 := by rw [← gErr_c, hN.1]; exact hg
  obtain ⟨l60, l120, _⟩ := gErr_lens hgM
  refine (igraph_any i1 hN.2.1.isN hN.2.2.isT l60 l120 (fun n hn => by have := gErr_rc8 hgM n hn; omega)).mono ?_
  rintro e w' ⟨un, ut, M', rfl, q1, q2, q3, q4⟩
  obtain ⟨a, c, rfl⟩ := own_slice q2.1
  obtain ⟨a', c', rfl⟩ := own_slice q3
  exact ⟨_, _, _, _, _, _, M', rfl, ⟨q1.trans hN.1, q2, q3⟩, q4⟩
end Go.Proofs.YtjnjbajnmclmjaaGreatDoor

/-
  The walk of the law IndexHolds.
-/
namespace Go.Proofs.YtjnjbajnmclmjaaGreatDoor
open Go.RowKit
set_option linter.unusedVariables false
set_option linter.unusedSimpArgs false

theorem isSc_slH {w : World} {v : Value} {L : List Kd} {B : List Bd} (h : IsSc w v L B) : ∃ a n c b m d, v = .agg #[.slice a n c, .slice b m d] := by
  obtain ⟨vk, vb, rfl, hK, _, _, hb, _⟩ := h
  obtain ⟨ak, ck, rfl, _⟩ := hK.sln
  obtain ⟨ab, cb, rfl, _⟩ := hb.sln
  exact ⟨_, _, _, _, _, _, rfl⟩
theorem isG_slH {w : World} {v : Value} {N : List Nd} {T : List Te} (h : IsG w v N T) : ∃ a n c b m d, v = .agg #[.slice a n c, .slice b m d] := by
  obtain ⟨vn, vt, rfl, ⟨an, cn, rfl, _⟩, ⟨am, cm, rfl, _⟩, _⟩ := h
  exact ⟨_, _, _, _, _, _, rfl⟩
/-- Where the loop over ops stands. -/
def HoI (W : World) (base b : Nat) (L : List Kd) (B : List Bd) (wr : World) : Prop := ∃ N T, Ix wr base b L B N T ∧ cfE L B N T = 0 ∧ Below W.heap.size W wr ∧ base ≤ W.heap.size
/-- Behind graph.Node. -/
def NdC (W : World) (L : List Kd) (N : List Nd) (nm fd : Nm) (id : Int) (s27 s28 : Value) (wx : World) : Prop :=
  ∃ q kd a l c rc, s27 = .pointer (some ⟨q, 0, none⟩) ∧ s28 = .nilIface ∧ wx.heap[q]? = some (.cells #[.int .i64 id, .string (bs kd), .slice a l c] 44 (0, 0)) ∧ IsR wx (.slice a l c) rc ∧ RdOk L N nm fd id kd rc ∧ Below W.heap.size W wx
theorem ndC_alloc {W W2 : World} {L : List Kd} {N : List Nd} {nm fd kd : Nm} {id : Int} {a : Option Addr} {l c : Nat} {rc : List Pr} (h1 : OwnRc W2 0 (.slice a l c) rc) (h2 : RdOk L N nm fd id kd rc) (h3 : Below W.heap.size W W2) : NdC W L N nm fd id (.pointer (some ⟨W2.heap.size, 0, none⟩)) .nilIface (W2.alloc (.cells #[.int .i64 id, .string (bs kd), .slice a l c] 44)) :=
  ⟨_, kd, a, l, c, rc, rfl, rfl, heap_alloc_new W2 _, h1.isR.on (b_alloc (Below.refl _ _) _), h2, b_alloc h3 _⟩
theorem ndC_set {W W2 : World} {L : List Kd} {N : List Nd} {nm fd kd : Nm} {id : Int} {a : Option Addr} {l c p2 : Nat} {rc : List Pr} {z1 z2 z3 : Value} (hp : W2.heap[p2]? = some (.cells #[z1, z2, z3] 44 (0, 0))) (hpW : W.heap.size ≤ p2) (h0 : OwnRc W2 0 (.slice a l c) rc) (h2 : RdOk L N nm fd id kd rc) (h3 : Below W.heap.size W W2) : NdC W L N nm fd id (.pointer (some ⟨p2, 0, none⟩)) .nilIface (((W2.setCell ⟨p2, 0, none⟩ (.int .i64 id)).setCell ⟨p2, 1, none⟩ (.string (bs kd))).setCell ⟨p2, 2, none⟩ (.slice a l c)) := by
  have hty : Ty W2 p2 44 := ⟨_, hp⟩
  have hk : Kt 40 W2 (((W2.setCell ⟨p2, 0, none⟩ (.int .i64 id)).setCell ⟨p2, 1, none⟩ (.string (bs kd))).setCell ⟨p2, 2, none⟩ (.slice a l c)) := (Kt.refl 40 W2).ty3 hty (by decide) 0 1 2 _ _ _
  exact ⟨p2, kd, a, l, c, rc, rfl, rfl, heap_setCell_same _ _ 2 _ 44 _ (heap_setCell_same _ _ 1 _ 44 _ (heap_setCell_same W2 _ 0 _ 44 _ hp)), OwnRc.isR (own_kt h0 hk), h2, below_set3 h3 hpW _ _ _ _ _ _⟩

set_option maxHeartbeats 32000000 in
set_option maxRecDepth 100000 in
theorem holds_no {vs vg vl : Value} {L : List Kd} {B : List Bd} {N : List Nd} {T : List Te} {O : List Opx} {w : World} (hs : IsSc w vs L B) (hg : IsG w vg N T) (hl : IsO w vl O) (zl : ∀ o ∈ O, OpSz o) (lO : O.length ≤ maxLen) {nm fd : Nm} (hnm : nm.length ≤ maxLen) (hfd : fd.length ≤ maxLen) (hH : Hnd w) (hcf : ¬ cfE L B N T = 0) :
    Calls Tryz.prog 3 #[vs, vg, vl, .string (bs nm), .string (bs fd)] w fun e w' => e = .returned (.bool true) ∧ Below w.heap.size w w' := by
  have HP : Hid (IsSc w vs L B ∧ IsG w vg N T ∧ IsO w vl O) := ⟨hs, hg, hl⟩
  have HZ : Hid (SzK L ∧ SzB B) := by
    obtain ⟨vk, vb, _, _, _, hz, _, hzb⟩ := hs
    exact ⟨hz, hzb⟩
  obtain ⟨a1, n1, c1, b1, m1, d1, rfl⟩ := isSc_slH hs
  obtain ⟨a2, n2, c2, b2, m2, d2, rfl⟩ := isG_slH hg
  obtain ⟨ao, co, hvl, _⟩ := id hl
  subst hvl
  obtain ⟨W0, hW0⟩ : ∃ W0, W0 = box2 w #[.slice a1 n1 c1, .slice b1 m1 d1] 25 #[.slice a2 n2 c2, .slice b2 m2 d2] 29 := ⟨_, rfl⟩
  have HB0 : Hid (Below w.heap.size w W0) := by rw [hW0]; exact box2_below _ _ _ _ _
  have x0 : W0.cell? ⟨w.heap.size, 0, none⟩ = some (.slice a1 n1 c1) := by rw [hW0]; exact box2_a _ _ _ _ _ rfl
  have x1 : W0.cell? ⟨w.heap.size, 1, none⟩ = some (.slice b1 m1 d1) := by rw [hW0]; exact box2_a _ _ _ _ _ rfl
  have x2 : W0.cell? ⟨w.heap.size + 1, 0, none⟩ = some (.slice a2 n2 c2) := by rw [hW0]; exact box2_b _ _ _ _ _ rfl
  have x3 : W0.cell? ⟨w.heap.size + 1, 1, none⟩ = some (.slice b2 m2 d2) := by rw [hW0]; exact box2_b _ _ _ _ _ rfl
  have hs0 : W0.heap.size = w.heap.size + 2 := by rw [hW0]; exact box2_size _ _ _ _ _
  have HC : Hid (∀ W, Below W0.heap.size W0 W → Below w.heap.size w W ∧ (W.cell? ⟨w.heap.size, 0, none⟩ = some (.slice a1 n1 c1) ∧ W.cell? ⟨w.heap.size, 1, none⟩ = some (.slice b1 m1 d1)) ∧ W.cell? ⟨w.heap.size + 1, 0, none⟩ = some (.slice a2 n2 c2) ∧ W.cell? ⟨w.heap.size + 1, 1, none⟩ = some (.slice b2 m2 d2)) := fun W hB =>
    ⟨on1K HB0.out hB (Nat.le_refl _), ⟨(hB.cell (p := ⟨w.heap.size, 0, none⟩) (by show w.heap.size < _; omega)).trans x0, (hB.cell (p := ⟨w.heap.size, 1, none⟩) (by show w.heap.size < _; omega)).trans x1⟩, (hB.cell (p := ⟨w.heap.size + 1, 0, none⟩) (by show w.heap.size + 1 < _; omega)).trans x2, (hB.cell (p := ⟨w.heap.size + 1, 1, none⟩) (by show w.heap.size + 1 < _; omega)).trans x3⟩
  obtain ⟨W8, hW8⟩ : ∃ W8, W8 = fcW W0 := ⟨_, rfl⟩
  have hF : Fct W8 W0.heap.size := by rw [hW8]; exact fcW_fct W0
  have hB8 : Below W0.heap.size W0 W8 := by rw [hW8]; exact fcW_below W0
  rw [hs0] at hF
  have e0 : W8.cell? ⟨w.heap.size + 1 + 1 + 1 + 1, 0, none⟩ = some (.slice (some ⟨w.heap.size + 1 + 1 + 1, 0, none⟩) 1 1) := cell_at hF.s rfl
  have e1 : W8.cell? ⟨w.heap.size + 1 + 1 + 1 + 1, 1, none⟩ = some (.slice none 0 0) := cell_at hF.s rfl
  have e2 : W8.cell? ⟨w.heap.size + 1 + 1 + 1 + 1 + 1 + 1 + 1, 0, none⟩ = some (.slice (some ⟨w.heap.size + 1 + 1 + 1 + 1 + 1 + 1, 0, none⟩) 1 1) := cell_at hF.g rfl
  have e3 : W8.cell? ⟨w.heap.size + 1 + 1 + 1 + 1 + 1 + 1 + 1, 1, none⟩ = some (.slice none 0 0) := cell_at hF.g rfl
  have cN1 := new_yes hF.sc hF.isg (cf_7 _ _ _)
  have HK7 : Hid (∀ (W : World) (base b : Nat) (vo vf rv : Value), Ix W base b [kdA vo vf] [] (cN [nd7 rv]) [] → Calls Tryz.prog 6 #[.pointer (some ⟨b, 0, none⟩), .string ⟨#[97]⟩, .string ⟨#[107]⟩, .agg #[.int .i64 1, .int .i64 5, .string ⟨#[]⟩]] W fun e w' => e = .returned (.tuple #[.int .i64 7, .nilIface]) ∧ Below W.heap.size W w') := fun W base b vo vf rv h => by
    have c := ix_key h (hpO_ok (sErr_good.1 (sErr_one vo vf)).1 (fun k hk => by
      obtain rfl := List.mem_singleton.1 hk
      refine ⟨by show (1 : Nat) ≤ maxLen; decide, fun f hf => ?_⟩
      obtain rfl := List.mem_singleton.1 hf
      show (1 : Nat) ≤ maxLen
      decide)) (nm := ⟨#[97]⟩) (st := ⟨#[]⟩) (fd := [107]) (t := 1) (n := 5) (by decide) (by decide) (by decide) (in64_of (by omega) (by omega)) (in64_of (by omega) (by omega))
    rw [keyA_7] at c
    exact c
  have H8 := Lib.hid hB8
  clear hs hg hl hF hB8
  have HN2 : Hid (∀ W, Below w.heap.size w W → Calls Tryz.prog 5 #[.agg #[.slice a1 n1 c1, .slice b1 m1 d1], .agg #[.slice a2 n2 c2, .slice b2 m2 d2]] W fun e w' => e = .returned (.tuple #[.pointer none, .iface 92 (.int .i64 (cfE L B N T))]) ∧ Below W.heap.size W w') := fun W hB => new_no (HP.out.1.on hB) (HP.out.2.1.on hB) hcf
  generalize cfE L B N T = zz at HN2
  clear hcf
  go_enter Tryz.func3, Tryz.ntmps3
  go_upto_region 1 with fail
  unfold box2 at hW0
  rw [← hW0]
  clear hW0
  unfold fcW at hW8
  rw [hs0] at hW8
  go_upto_region 3 with fail
  rw [← hW8]
  clear hW8
  go_wp2_with (first | (go_at_call 5; refine cN1.mono ?_; rintro e W9 ⟨b7, rfl, hx9, hB9⟩; refine Hid.out ?_))
  refine Lib.hid ?_
  have cK := HK7.out W9 _ b7 _ _ _ hx9
  have H9 : Hid (Below W0.heap.size W0 W9) := on1K H8.out hB9 (Nat.le_refl _)
  clear hx9 hB9 cN1 e0 e1 e2 e3 x0 x1 x2 x3
  go_wp2_with (first | (go_at_call 6; refine cK.mono ?_; rintro e W10 ⟨rfl, hB10⟩; refine Hid.out ?_))
  refine Lib.hid ?_
  have hB010 := on1K H9.out hB10 (Nat.le_refl _)
  obtain ⟨hbw, ⟨y0, y1⟩, y2, y3⟩ := HC.out W10 hB010
  have cN2 := HN2.out W10 hbw
  have H10 := Lib.hid hbw
  clear hB010 hbw cK hB10
  go_wp2_with (first | (go_at_call 5; refine cN2.mono ?_; rintro e W11 ⟨rfl, hB11⟩))
  go_ret
  exact ⟨rfl, on1K H10.out hB11 (Nat.le_refl _)⟩
end Go.Proofs.YtjnjbajnmclmjaaGreatDoor
