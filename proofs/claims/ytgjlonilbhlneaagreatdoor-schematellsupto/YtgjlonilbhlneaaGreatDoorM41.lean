/-
  What errors.As, plain.Told and kinsame.Error give of package api's errors.
-/
import Derived.Test.YtgjlonilbhlneaaGreatDoorM25
import Derived.LaidEql
import Derived.Stop.Asserts
import Derived.RowKitTokens
import Derived.Laws.Cover1
import Derived.Test.YtgjlonilbhlneaaGreatDoorM08
import Derived.Test.YtgjlonilbhlneaaGreatDoorM15
namespace Go.Proofs.YtgjlonilbhlneaaGreatDoor
open Go.RowKit Go.Extern.Stop Go.Stop Go.Extern
set_option linter.unusedVariables false
set_option linter.unusedSimpArgs false

abbrev Hnd (w : World) : Prop := w.cell? ⟨0, 0, none⟩ = some (.iface 157 (.agg #[.pointer (some ⟨10, 29, none⟩)]))

theorem asValue56 (t : Addr) (w : World) : (ReflectliteValue.unpack (.iface 96 (.pointer (some t)))).run Tryz.prog w = .ok (.agg #[.pointer (some ⟨10, 96, none⟩), .pointer (some ⟨w.heap.size, 0, none⟩), .int .u64 150]) (w.alloc (.cells #[.pointer (some t)] 96)) := by kernel_rfl
theorem asValue44 (x : Int) (w : World) : (ReflectliteValue.unpack (.iface 60 (.int .i64 x))).run Tryz.prog w = .ok (.agg #[.pointer (some ⟨10, 60, none⟩), .pointer (some ⟨w.heap.size, 0, none⟩), .int .u64 130]) (w.alloc (.cells #[.int .i64 x] 60)) := by kernel_rfl
theorem asType56 (a : Addr) (w : World) : (ReflectliteValue.methodAny (ReflectliteValue.valueError "reflectlite.Value.Type" 0) (fun t _ _ _ => ReflectliteType.toType t) #[(.agg #[.pointer (some ⟨10, 96, none⟩), .pointer (some a), .int .u64 150])]).run Tryz.prog w = .ok (.iface 157 (.agg #[.pointer (some ⟨10, 96, none⟩)])) w := by kernel_rfl
theorem asKind (h : Value) (w : World) : (Go.method 355 157 (.agg #[h]) "Kind").run Tryz.prog w = .ok (174, h) w := by kernel_rfl
theorem asElem (h : Value) (w : World) : (Go.method 355 157 (.agg #[h]) "Elem").run Tryz.prog w = .ok (185, .agg #[h]) w := by kernel_rfl
theorem asImpl (h : Value) (w : World) : (Go.method 355 157 (.agg #[h]) "Implements").run Tryz.prog w = .ok (186, .agg #[h]) w := by kernel_rfl
theorem asAssign (h : Value) (w : World) : (Go.method 355 157 (.agg #[h]) "AssignableTo").run Tryz.prog w = .ok (183, .agg #[h]) w := by kernel_rfl
theorem asKind56 (w : World) : ((ReflectliteType.abiMethod fun t => (fun a : Nat => Value.int IntKind.u8 (a : Int)) <$> Rtype.kind t) #[.pointer (some ⟨10, 96, none⟩)]).run Tryz.prog w = .ok (.int .u8 22) w := by kernel_rfl
theorem asKind44 (w : World) : ((ReflectliteType.abiMethod fun t => (fun a : Nat => Value.int IntKind.u8 (a : Int)) <$> Rtype.kind t) #[.pointer (some ⟨10, 60, none⟩)]).run Tryz.prog w = .ok (.int .u8 2) w := by kernel_rfl
theorem asElem56 (w : World) : (ReflectliteType.method ReflectliteType.elem #[(.agg #[.pointer (some ⟨10, 96, none⟩)])]).run Tryz.prog w = .ok (.iface 157 (.agg #[.pointer (some ⟨10, 60, none⟩)])) w := by kernel_rfl
theorem asImpl44 (w : World) : (ReflectliteType.relation "Implements" ReflectliteType.implements_ #[(.agg #[.pointer (some ⟨10, 60, none⟩)]), .iface 157 (.agg #[.pointer (some ⟨10, 29, none⟩)])]).run Tryz.prog w = .ok (.bool true) w := by kernel_rfl
theorem asTypeOf44 (v : Value) (w : World) : (ReflectliteType.typeOf #[.iface 60 v]).run Tryz.prog w = .ok (.iface 157 (.agg #[.pointer (some ⟨10, 60, none⟩)])) w := by kernel_rfl
theorem asAssign44 (w : World) : (ReflectliteType.relation "AssignableTo" ReflectliteType.assignableTo #[(.agg #[.pointer (some ⟨10, 60, none⟩)]), .iface 157 (.agg #[.pointer (some ⟨10, 60, none⟩)])]).run Tryz.prog w = .ok (.bool true) w := by kernel_rfl
theorem asParts56 (a : Addr) (w : World) : (ReflectliteValue.parts (.agg #[.pointer (some ⟨10, 96, none⟩), .pointer (some a), .int .u64 150])).run Tryz.prog w = .ok (some (96, a, 150)) w := by kernel_rfl
theorem asParts44 (a : Addr) (w : World) : (ReflectliteValue.parts (.agg #[.pointer (some ⟨10, 60, none⟩), .pointer (some a), .int .u64 130])).run Tryz.prog w = .ok (some (60, a, 130)) w := by kernel_rfl
theorem asParts44a (a : Addr) (w : World) : (ReflectliteValue.parts (.agg #[.pointer (some ⟨10, 60, none⟩), .pointer (some a), .int .u64 386])).run Tryz.prog w = .ok (some (60, a, 386)) w := by kernel_rfl
theorem asElemOf (w : World) : (Rtype.elem? 96).run Tryz.prog w = .ok (some 60) w := by kernel_rfl
theorem asMk (p : Addr) (w : World) : (ReflectliteValue.mk 60 p ReflectliteValue.flagAddr).run Tryz.prog w = .ok (.agg #[.pointer (some ⟨10, 60, none⟩), .pointer (some p), .int .u64 386]) w := by kernel_rfl
theorem asDirect (w : World) : (Rtype.directlyAssignable 60 60).run Tryz.prog w = .ok true w := by kernel_rfl

theorem asIsNil (a p : Addr) (W : World) (ha : W.cell? a = some (.pointer (some p))) :
    (ReflectliteValue.method (ReflectliteValue.valueError "reflectlite.Value.IsNil" 0) ReflectliteValue.isNil #[(.agg #[.pointer (some ⟨10, 96, none⟩), .pointer (some a), .int .u64 150])]).run Tryz.prog W = .ok (.bool false) W := by
  rw [show ReflectliteValue.method _ _ #[(.agg #[.pointer (some ⟨10, 96, none⟩), .pointer (some a), .int .u64 150])] = (ReflectliteValue.parts (.agg #[.pointer (some ⟨10, 96, none⟩), .pointer (some a), .int .u64 150]) >>= fun _ => _) from rfl]
  simp only [Sem.run_bind, asParts56, Result.andThen]
  simp [ReflectliteValue.isNil, loadVar, isAgg, underlying, Tryz.underlying96, ha, Result.andThen]
theorem asElemV (a p : Addr) (W : World) (ha : W.cell? a = some (.pointer (some p))) :
    (ReflectliteValue.method (ReflectliteValue.valueError "reflectlite.Value.Elem" 0) ReflectliteValue.elem #[(.agg #[.pointer (some ⟨10, 96, none⟩), .pointer (some a), .int .u64 150])]).run Tryz.prog W = .ok (.agg #[.pointer (some ⟨10, 60, none⟩), .pointer (some p), .int .u64 386]) W := by
  rw [show ReflectliteValue.method _ _ #[(.agg #[.pointer (some ⟨10, 96, none⟩), .pointer (some a), .int .u64 150])] = (ReflectliteValue.parts (.agg #[.pointer (some ⟨10, 96, none⟩), .pointer (some a), .int .u64 150]) >>= fun _ => _) from rfl]
  simp only [Sem.run_bind, asParts56, Result.andThen]
  simp [ReflectliteValue.elem, loadVar, isAgg, underlying, Tryz.underlying96, ha, Result.andThen, asElemOf, asMk]
theorem asSet (ta b : Addr) (x : Int) (old : Value) (W : World) (hb : W.cell? b = some (.int .i64 x)) (ht : W.cell? ta = some old) (hf : W.frozen? ta = false) :
    (ReflectliteValue.set #[(.agg #[.pointer (some ⟨10, 60, none⟩), .pointer (some ta), .int .u64 386]), (.agg #[.pointer (some ⟨10, 60, none⟩), .pointer (some b), .int .u64 130])]).run Tryz.prog W = .ok (.tuple #[]) (W.setCell ta (.int .i64 x)) := by
  rw [show ReflectliteValue.set #[(.agg #[.pointer (some ⟨10, 60, none⟩), .pointer (some ta), .int .u64 386]), (.agg #[.pointer (some ⟨10, 60, none⟩), .pointer (some b), .int .u64 130])] = (ReflectliteValue.parts (.agg #[.pointer (some ⟨10, 60, none⟩), .pointer (some ta), .int .u64 386]) >>= fun _ => ReflectliteValue.parts (.agg #[.pointer (some ⟨10, 60, none⟩), .pointer (some b), .int .u64 130]) >>= fun _ => _) from rfl]
  simp only [Sem.run_bind, asParts44a, asParts44, Result.andThen]
  simp [asParts44a, asParts44, ReflectliteValue.flagAddr, loadVar, isAgg, underlying, Tryz.underlying60, hb, Result.andThen, asDirect, storeVar, Value.cells, storeCells, Addr.add]
  rw [run_store Tryz.prog W ta _ _ (by rfl)]
  simp [ht, hf]

set_option maxHeartbeats 4000000 in
theorem as_hit (x : Int) (t : Addr) (old : Value) (w : World) (hg : Hnd w) (ht0 : w.cell? t = some old) (hf0 : w.frozen? t = false) :
    Calls Tryz.prog 48 #[.iface 60 (.int .i64 x), .iface 96 (.pointer (some t))] w fun ev w' => ev = .returned (.bool true) ∧ w' = ((((w.alloc (.cells #[.pointer (some t)] 96)).alloc (.cells #[.pointer (some ⟨10, 96, none⟩), .pointer (some ⟨w.heap.size, 0, none⟩), .int .u64 150] 132)).alloc (.cells #[.pointer (some ⟨10, 96, none⟩), .pointer (some ⟨w.heap.size, 0, none⟩), .int .u64 150] 132)).alloc (.cells #[.int .i64 x] 60)).setCell t (.int .i64 x) := by
  have h6 := @run_callFunc_extern Tryz.prog 75 _ (fun args => ReflectliteValue.unpack (args.getD 0 (.tuple #[]))) Tryz.func75 (by kernel_rfl) (by kernel_rfl) (by kernel_rfl) (by kernel_rfl)
  have h7 := @run_callFunc_extern Tryz.prog 76 _ (ReflectliteValue.methodAny (ReflectliteValue.valueError "reflectlite.Value.Type" 0) (fun t _ _ _ => ReflectliteType.toType t)) Tryz.func76 (by kernel_rfl) (by kernel_rfl) (by kernel_rfl) (by kernel_rfl)
  have h8 := @run_callFunc_extern Tryz.prog 77 _ (ReflectliteValue.method (ReflectliteValue.valueError "reflectlite.Value.IsNil" 0) ReflectliteValue.isNil) Tryz.func77 (by kernel_rfl) (by kernel_rfl) (by kernel_rfl) (by kernel_rfl)
  have h27 := @run_callFunc_extern Tryz.prog 174 _ (ReflectliteType.abiMethod fun t => do pure (.int .u8 (← Rtype.kind t))) Tryz.func174 (by kernel_rfl) (by kernel_rfl) (by kernel_rfl) (by kernel_rfl)
  have h37 := @run_callFunc_extern Tryz.prog 185 _ (ReflectliteType.method ReflectliteType.elem) Tryz.func185 (by kernel_rfl) (by kernel_rfl) (by kernel_rfl) (by kernel_rfl)
  have h38 := @run_callFunc_extern Tryz.prog 186 _ (ReflectliteType.relation "Implements" ReflectliteType.implements_) Tryz.func186 (by kernel_rfl) (by kernel_rfl) (by kernel_rfl) (by kernel_rfl)
  have h10 := @run_callFunc_extern Tryz.prog 96 _ ReflectliteType.typeOf Tryz.func96 (by kernel_rfl) (by kernel_rfl) (by kernel_rfl) (by kernel_rfl)
  have h35 := @run_callFunc_extern Tryz.prog 183 _ (ReflectliteType.relation "AssignableTo" ReflectliteType.assignableTo) Tryz.func183 (by kernel_rfl) (by kernel_rfl) (by kernel_rfl) (by kernel_rfl)
  have h11 := @run_callFunc_extern Tryz.prog 97 _ (ReflectliteValue.method (ReflectliteValue.valueError "reflectlite.Value.Elem" 0) ReflectliteValue.elem) Tryz.func97 (by kernel_rfl) (by kernel_rfl) (by kernel_rfl) (by kernel_rfl)
  have h12 := @run_callFunc_extern Tryz.prog 98 _ ReflectliteValue.set Tryz.func98 (by kernel_rfl) (by kernel_rfl) (by kernel_rfl) (by kernel_rfl)
  have tO := asTypeOf44
  have mA := asAssign
  have a25 := asAssign44
  have v25 := asValue44
  have f6 := asValue56
  have f7 := asType56
  have mK := asKind
  have mE := asElem
  have mI := asImpl
  have k27 := asKind56
  have k25 := asKind44
  have e27 := asElem56
  have i25 := asImpl44
  have n8 := asIsNil ⟨w.heap.size, 0, none⟩ t ((w.alloc (.cells #[.pointer (some t)] 96)).alloc (.cells #[.pointer (some ⟨10, 96, none⟩), .pointer (some ⟨w.heap.size, 0, none⟩), .int .u64 150] 132)) (by simp)
  have hlt : 0 < w.heap.size := by
    rcases Nat.eq_zero_or_pos w.heap.size with h0 | h
    · have hg' : w.cell? ⟨0, 0, none⟩ = _ := hg
      simp [World.cell?, h0] at hg'
    · exact h
  have hg2 : ((w.alloc (.cells #[.pointer (some t)] 96)).alloc (.cells #[.pointer (some ⟨10, 96, none⟩), .pointer (some ⟨w.heap.size, 0, none⟩), .int .u64 150] 132)).cell? ⟨0, 0, none⟩ = some (.iface 157 (.agg #[.pointer (some ⟨10, 29, none⟩)])) := by
    rw [World.cell?_alloc_lt _ _ ⟨0, 0, none⟩ (by simp), World.cell?_alloc_lt _ _ ⟨0, 0, none⟩ hlt]; exact hg
  have htl : t.block < w.heap.size := by
    rcases Nat.lt_or_ge t.block w.heap.size with h | h
    · exact h
    · simp [World.cell?, Array.getElem?_eq_none h] at ht0
  have el := asElemV ⟨w.heap.size, 0, none⟩ t (((w.alloc (.cells #[.pointer (some t)] 96)).alloc (.cells #[.pointer (some ⟨10, 96, none⟩), .pointer (some ⟨w.heap.size, 0, none⟩), .int .u64 150] 132)).alloc (.cells #[.pointer (some ⟨10, 96, none⟩), .pointer (some ⟨w.heap.size, 0, none⟩), .int .u64 150] 132)) (by rw [World.cell?_alloc_lt _ _ ⟨w.heap.size, 0, none⟩ (by simp; omega)]; simp)
  have st := asSet t ⟨w.heap.size + 1 + 1 + 1, 0, none⟩ x old ((((w.alloc (.cells #[.pointer (some t)] 96)).alloc (.cells #[.pointer (some ⟨10, 96, none⟩), .pointer (some ⟨w.heap.size, 0, none⟩), .int .u64 150] 132)).alloc (.cells #[.pointer (some ⟨10, 96, none⟩), .pointer (some ⟨w.heap.size, 0, none⟩), .int .u64 150] 132)).alloc (.cells #[.int .i64 x] 60))
    (by rw [World.cell?_alloc_at _ _ _ _ (by simp)]; rfl)
    (by rw [World.cell?_alloc_lt _ _ t (by simp; omega), World.cell?_alloc_lt _ _ t (by simp; omega), World.cell?_alloc_lt _ _ t (by simp; omega), World.cell?_alloc_lt _ _ t htl]; exact ht0)
    (by rw [World.frozen?_alloc_old _ _ t (by simp; omega), World.frozen?_alloc_old _ _ t (by simp; omega), World.frozen?_alloc_old _ _ t (by simp; omega), World.frozen?_alloc_old _ _ t (Nat.ne_of_lt htl)]; exact hf0)
  go_enter Tryz.func48, Tryz.ntmps48
  go_wp2
  refine wp_loop_rounds 1 ?_
  rw [rounds_succ]
  go_wp2
  go_ret
  exact ⟨rfl, rfl⟩
end Go.Proofs.YtgjlonilbhlneaaGreatDoor

/-
  What plain.Told and kinsame.Error give of package api's errors, and the specification's Order of values.
-/
namespace Go.Proofs.YtgjlonilbhlneaaGreatDoor
open Go.RowKit
set_option linter.unusedVariables false
set_option linter.unusedSimpArgs false

theorem told_nil (w : World) : Calls Tryz.prog 23 #[.nilIface] w fun e w' => e = .returned (.int .i64 0) ∧ w' = w := by
  go_enter Tryz.func23, Tryz.ntmps23
  go_wp2
  go_ret
  exact ⟨rfl, rfl⟩
set_option maxHeartbeats 1000000 in
theorem told_err (x : Int) (w : World) (hg : Hnd w) : Calls Tryz.prog 23 #[.iface 60 (.int .i64 x)] w fun e w' => e = .returned (.int .i64 x) ∧ Below w.heap.size w w' := by
  have hlt : 0 < w.heap.size := by
    rcases Nat.eq_zero_or_pos w.heap.size with h0 | h
    · have hg' : w.cell? ⟨0, 0, none⟩ = _ := hg
      simp [World.cell?, h0] at hg'
    · exact h
  have hgA : Hnd (w.alloc (.cells #[.int .i64 0] 60)) := by
    show (w.alloc (.cells #[.int .i64 0] 60)).cell? ⟨0, 0, none⟩ = _
    rw [World.cell?_alloc_lt _ _ ⟨0, 0, none⟩ hlt]; exact hg
  have htA : (w.alloc (.cells #[.int .i64 0] 60)).cell? ⟨w.heap.size, 0, none⟩ = some (.int .i64 0) := by simp
  have hfA : (w.alloc (.cells #[.int .i64 0] 60)).frozen? ⟨w.heap.size, 0, none⟩ = false := by simp
  clear hg hlt
  go_enter Tryz.func23, Tryz.ntmps23
  go_wp2_with (go_at_call 48; refine (as_hit x _ (.int .i64 0) _ hgA htA hfA).mono ?_; rintro e w' ⟨rfl, rfl⟩)
  go_ret
  refine ⟨rfl, ?_⟩
  exact (((((Below.refl _ w).alloc (Nat.le_refl _) _).alloc (by simp) _).alloc (by simp; omega) _).alloc (by simp; omega) _).alloc (by simp; omega) _
theorem told_any (x : Int) (w : World) (hg : Hnd w) : Calls Tryz.prog 23 #[errV x] w fun e w' => e = .returned (.int .i64 x) ∧ Below w.heap.size w w' := by
  by_cases h : x = 0
  · subst h
    refine (told_nil w).mono ?_
    rintro e w' ⟨rfl, rfl⟩
    exact ⟨rfl, Below.refl _ _⟩
  · rw [errV_ne h]; exact told_err x w hg
theorem error_any (x : Int) (w : World) (hg : Hnd w) : Calls Tryz.prog 7 #[errV x, .int .i64 x] w fun e w' => e = .returned (.bool true) ∧ Below w.heap.size w w' := by
  go_enter Tryz.func7, Tryz.ntmps7
  go_wp2_with (go_at_call 23; refine (told_any x _ hg).mono ?_; rintro e w' ⟨rfl, hb⟩)
  go_ret
  exact ⟨ret_bool (by simp), hb⟩

end Go.Proofs.YtgjlonilbhlneaaGreatDoor

/-
  The walk of schema.Bond.
-/
namespace Go.Proofs.YtgjlonilbhlneaaGreatDoor
open Go.RowKit
set_option linter.unusedVariables false
set_option linter.unusedSimpArgs false

def bdAt (B : List Bd) (s : Nm) : Option Bd := if idxB s B 0 = -1 then none else B[(idxB s B 0).toNat]?
def bdTell (L : List Kd) (B : List Bd) (s : Nm) : Bd × Int := if (sErr L B).2 = 0 then (match bdAt B s with | none => (bdZ, 5) | some x => (x, 0)) else (bdZ, (sErr L B).2)
def Rs5 (h : Nat) (W : World) : Prop := h < W.heap.size ∧
  (W.cell? ⟨h, 0, none⟩ = some (.string ⟨#[]⟩) ∧ W.cell? ⟨h, 1, none⟩ = some (.string ⟨#[]⟩) ∧ W.cell? ⟨h, 2, none⟩ = some (.string ⟨#[]⟩) ∧ W.cell? ⟨h, 3, none⟩ = some (.int .i64 0) ∧ W.cell? ⟨h, 4, none⟩ = some (.int .i64 0)) ∧
  (W.frozen? ⟨h, 0, none⟩ = false ∧ W.frozen? ⟨h, 1, none⟩ = false ∧ W.frozen? ⟨h, 2, none⟩ = false ∧ W.frozen? ⟨h, 3, none⟩ = false ∧ W.frozen? ⟨h, 4, none⟩ = false)
theorem Rs5.on {h : Nat} {W W' : World} (H : Rs5 h W) (hB : Below W.heap.size W W') : Rs5 h W' := by
  obtain ⟨h1, H2⟩ := H
  have hc : ∀ k, W'.cell? ⟨h, k, none⟩ = W.cell? ⟨h, k, none⟩ := fun k => hB.cell (p := ⟨h, k, none⟩) h1
  have hf : ∀ k, W'.frozen? ⟨h, k, none⟩ = W.frozen? ⟨h, k, none⟩ := fun k => hB.frozen (p := ⟨h, k, none⟩) h1
  refine ⟨Nat.lt_of_lt_of_le h1 hB.size, ?_⟩
  simp only [hc, hf]
  exact H2
theorem b_set5 {b h : Nat} {w W : World} (hB : Below b w W) (hb : b ≤ h) (x0 x1 x2 x3 x4 : Value) : Below b w (((((W.setCell ⟨h, 0, none⟩ x0).setCell ⟨h, 1, none⟩ x1).setCell ⟨h, 2, none⟩ x2).setCell ⟨h, 3, none⟩ x3).setCell ⟨h, 4, none⟩ x4) :=
  ((((hB.setCell hb _).setCell hb _).setCell hb _).setCell hb _).setCell hb _
set_option maxHeartbeats 8000000 in
set_option maxRecDepth 100000 in
theorem sbond_any {vk vb : Value} {L : List Kd} {B : List Bd} {w : World} (s : Nm) (hK : IsK w vk L) (hP : Parts w L) (hz : SzK L) (hb : IsB w vb B) (hzb : SzB B) :
    Calls Tryz.prog 14 #[.agg #[vk, vb], .string (bs s)] w fun e w' => e = .returned (.tuple #[(bdTell L B s).1.one, errV (bdTell L B s).2]) ∧ Below w.heap.size w w' := by
  obtain ⟨ak, ck, evk, hkl⟩ := hK.sln
  obtain ⟨ab, cb, evb, hbc, hbm, hvb⟩ := isB_view hb
  obtain ⟨_, _, _, hbl⟩ := hb.sln
  subst evk
  subst evb
  obtain ⟨W0, hW0⟩ : ∃ W0, W0 = (w.alloc (.cells #[.slice ak L.length ck, .slice ab B.length cb] 25)).alloc (.cells #[.string ⟨#[]⟩, .string ⟨#[]⟩, .string ⟨#[]⟩, .int .i64 0, .int .i64 0] 40) := ⟨_, rfl⟩
  have hB0 : Below w.heap.size w W0 := by rw [hW0]; exact b_alloc (b_alloc (Below.refl _ _) (Nat.le_refl _) _) (Nat.le_refl _) _
  have HR0 : Hid (Rs5 (w.heap.size + 1) W0) := by show Rs5 _ _; rw [hW0]; unfold Rs5; simp
  have HC0 : Hid (W0.cell? ⟨w.heap.size, 0, none⟩ = some (.slice ak L.length ck) ∧ W0.cell? ⟨w.heap.size, 1, none⟩ = some (.slice ab B.length cb) ∧ w.heap.size < W0.heap.size) := by refine ⟨?_, ?_, ?_⟩ <;> rw [hW0] <;> simp <;> omega
  have c1 := scheck_any (hK.on hB0) (hP.on hB0) hz (hb.on hB0) hzb
  have HB0 : Hid (Below w.heap.size w W0) := hB0
  have HH : Hid (IsB w (.slice ab B.length cb) B ∧ (∀ (j : Nat) g, B[j]? = some g → ∃ b o, ab = some ⟨b, o, none⟩ ∧ b < w.heap.size ∧ LiesB w b o B)) := ⟨hb, hvb⟩
  unfold maxLen at hkl hbl hbm
  clear hK hP hz hb hzb hvb hbc hB0
  rw [hW0] at c1
  by_cases h1 : (sErr L B).2 = 0
  · have HL12 : Hid (B.length ≤ 12) := by
      show _ ≤ _
      unfold sErr at h1
      split at h1
      · split at h1
        · cases h1
        · omega
      · exact absurd h1 (by assumption)
    have HE : Hid (bdTell L B s = match bdAt B s with | none => (bdZ, 5) | some x => (x, 0)) := by
      show _ = _
      unfold bdTell; rw [if_pos h1]
    rw [h1, errV_0] at c1
    obtain ⟨r, hr⟩ : ∃ r, r = (sErr L B).1 := ⟨_, rfl⟩
    rw [← hr] at c1
    clear h1 hr
    go_enter Tryz.func14, Tryz.ntmps14
    go_wp2_with (go_at_call 6; refine c1.mono ?_; rintro e W1 ⟨rfl, hB1⟩; refine Hid.out ?_)
    refine Lib.hid ?_
    rw [← hW0] at hB1
    have g0 := (hB1.cell (p := ⟨w.heap.size, 0, none⟩) HC0.out.2.2).trans HC0.out.1
    have g1 := (hB1.cell (p := ⟨w.heap.size, 1, none⟩) HC0.out.2.2).trans HC0.out.2.1
    have hsz1 : w.heap.size < W1.heap.size := Nat.lt_of_lt_of_le HC0.out.2.2 hB1.size
    have HR1 : Hid (Rs5 (w.heap.size + 1) W1) := HR0.out.on hB1
    have hBw1 : Below w.heap.size w W1 := on1 HB0.out hB1 (Nat.le_refl _)
    have c2 := bondIndex_any (HH.out.1.on hBw1) HL12.out s
    clear c1 hB1 hW0
    rcases idxB_spec s B 0 with hx | ⟨j, q, hx, hq, _⟩
    · have HS : Hid (bdTell L B s = (bdZ, 5)) := by
        show _ = _
        rw [HE.out]; unfold bdAt; rw [if_pos hx]
      rw [hx] at c2
      clear HE hx
      go_wp2_with (go_at_call 38; refine c2.mono ?_; rintro e W2 ⟨rfl, hB2⟩; obtain ⟨hr0, ⟨r0, r1, r2, r3, r4⟩, ⟨z0, z1, z2, z3, z4⟩⟩ := HR1.out.on hB2)
      (try simp only [Exit.inBlock, Exit.then])
      refine bodyPost_ret (v := .tuple #[bdZ.one, errV 5]) ?_ rfl ⟨ret_v (by rw [HS.out]), b_set5 (on1 hBw1 hB2 (Nat.le_refl _)) (Nat.le_succ _) _ _ _ _ _⟩
      rw [results_cell_tmp rfl]
      go_simp
      exact ⟨⟨rfl, rfl, rfl, rfl, rfl⟩, rfl⟩
    · rw [Nat.zero_add] at hx
      have HS : Hid (bdTell L B s = (q, 0)) := by
        show _ = _
        rw [HE.out]; unfold bdAt; rw [if_neg (by omega), hx, Int.toNat_natCast, hq]
      rw [hx] at c2
      obtain ⟨bx, ox, rfl, hbx, hlx⟩ := HH.out.2 j q hq
      have hjl : j < B.length := (List.getElem?_eq_some_iff.1 hq).1
      obtain ⟨d0, d1, d2, d3, d4⟩ := hlx j q hq
      clear HE hx hq
      go_wp2_with (go_at_call 38; refine c2.mono ?_; rintro e W2 ⟨rfl, hB2⟩; refine Hid.out ?_)
      refine Lib.hid ?_
      have hBw2 := on1 hBw1 hB2 (Nat.le_refl _)
      have f0 := (hBw2.cell (p := ⟨bx, ox + j * 5, none⟩) hbx).trans d0
      have f1 := (hBw2.cell (p := ⟨bx, ox + j * 5 + 1, none⟩) hbx).trans d1
      have f2 := (hBw2.cell (p := ⟨bx, ox + j * 5 + 2, none⟩) hbx).trans d2
      have f3 := (hBw2.cell (p := ⟨bx, ox + j * 5 + 3, none⟩) hbx).trans d3
      have f4 := (hBw2.cell (p := ⟨bx, ox + j * 5 + 4, none⟩) hbx).trans d4
      have e1 := (hB2.cell (p := ⟨w.heap.size, 1, none⟩) hsz1).trans g1
      clear d0 d1 d2 d3 d4 c2 hlx
      obtain ⟨hr0, ⟨r0, r1, r2, r3, r4⟩, ⟨z0, z1, z2, z3, z4⟩⟩ := HR1.out.on hB2
      go_wp2
      (try simp only [Exit.inBlock, Exit.then])
      refine bodyPost_ret (v := .tuple #[q.one, errV 0]) ?_ rfl ⟨ret_v (by rw [HS.out]), b_set5 (hBw2) (Nat.le_succ _) _ _ _ _ _⟩
      rw [results_cell_tmp rfl]
      go_simp
      rfl
  · have HE : Hid (bdTell L B s = (bdZ, (sErr L B).2) ∧ ¬ (sErr L B).2 = 0) := by
      refine ⟨?_, h1⟩
      unfold bdTell; rw [if_neg h1]
    rw [errV_ne h1] at c1
    clear h1
    go_enter Tryz.func14, Tryz.ntmps14
    go_wp2_with (go_at_call 6; refine c1.mono ?_; rintro e W1 ⟨rfl, hB1⟩; rw [← hW0] at hB1; obtain ⟨hr0, ⟨r0, r1, r2, r3, r4⟩, ⟨z0, z1, z2, z3, z4⟩⟩ := HR0.out.on hB1)
    (try simp only [Exit.inBlock, Exit.then])
    refine bodyPost_ret (v := .tuple #[bdZ.one, errV (sErr L B).2]) ?_ rfl ⟨ret_v (by rw [HE.out.1]), b_set5 (on1 HB0.out hB1 (Nat.le_refl _)) (Nat.le_succ _) _ _ _ _ _⟩
    rw [results_cell_tmp rfl]
    go_simp
    rw [errV_ne HE.out.2]; exact ⟨⟨rfl, rfl, rfl, rfl, rfl⟩, rfl⟩
end Go.Proofs.YtgjlonilbhlneaaGreatDoor

/-
  The walks of kind.find and kind.Kin.
-/
namespace Go.Proofs.YtgjlonilbhlneaaGreatDoor
open Go.RowKit
set_option linter.unusedVariables false
set_option linter.unusedSimpArgs false

def fAt (L : List Kd) (a : Nm) : Int := if nmErr L a = 0 then idxK a L 0 else 0
theorem ksErr_len {L : List Kd} (h : (ksErr L).2 = 0) : L.length ≤ 12 := (ksErr_good.1 h).2
set_option maxHeartbeats 4000000 in
set_option maxRecDepth 100000 in
theorem find_any {v : Value} {L : List Kd} {w : World} (h : IsK w v L) (hP : Parts w L) (hz : SzK L) (a : Nm) :
    Calls Tryz.prog 63 #[v, .string (bs a)] w fun e w' => e = .returned (.tuple #[.int .i64 (fAt L a), errV (nmErr L a)]) ∧ Below w.heap.size w w' := by
  have c1 := kcheck_any h hP hz
  by_cases e1 : (ksErr L).2 = 0
  · have hn := ksErr_len e1
    have H2 : Hid (IsK w v L ∧ L.length ≤ 12 ∧ (ksErr L).2 = 0) := ⟨h, hn, e1⟩
    rw [e1, errV_0] at c1
    generalize bs (ksErr L).1 = nm at c1
    rcases idxK_spec a L 0 with hx | ⟨j, q, hx, hq, _⟩
    · have HE : Hid (nmErr L a = 5 ∧ fAt L a = 0 ∧ idxK a L 0 = -1) := by
        have e5 : nmErr L a = 5 := by unfold nmErr; rw [if_pos e1, if_pos hx]
        exact ⟨e5, by unfold fAt; rw [if_neg (by rw [e5]; decide)], hx⟩
      clear h hz e1 hn hx hP
      go_enter Tryz.func63, Tryz.ntmps63
      go_wp2_with (go_at_call 21; refine c1.mono ?_; rintro e W1 ⟨rfl, hB1⟩; refine Hid.out ?_)
      refine Lib.hid ?_
      have c2 := index_any (H2.out.1.on hB1) H2.out.2.1 a
      rw [HE.out.2.2] at c2
      clear c1
      go_wp2_with (go_at_call 67; refine c2.mono ?_; rintro e W2 ⟨rfl, hB2⟩)
      go_ret2
      exact ⟨ret_v (by rw [HE.out.1, HE.out.2.1]; rfl), on1 hB1 hB2 (Nat.le_refl _)⟩
    · have hj : j < L.length := (List.getElem?_eq_some_iff.1 hq).1
      have HE : Hid (nmErr L a = 0 ∧ fAt L a = j ∧ idxK a L 0 = j) := by
        have hx' : idxK a L 0 = (j : Int) := by simpa using hx
        have e5 : nmErr L a = 0 := by unfold nmErr; rw [if_pos e1, if_neg (by rw [hx']; omega)]
        exact ⟨e5, by unfold fAt; rw [if_pos e5, hx'], hx'⟩
      have hj8 : j < 12 := by omega
      clear h hz e1 hx hq hn hj hP
      go_enter Tryz.func63, Tryz.ntmps63
      go_wp2_with (go_at_call 21; refine c1.mono ?_; rintro e W1 ⟨rfl, hB1⟩; refine Hid.out ?_)
      refine Lib.hid ?_
      have c2 := index_any (H2.out.1.on hB1) H2.out.2.1 a
      rw [HE.out.2.2] at c2
      clear c1
      go_wp2_with (go_at_call 67; refine c2.mono ?_; rintro e W2 ⟨rfl, hB2⟩)
      go_ret2
      exact ⟨ret_v (by rw [HE.out.1, HE.out.2.1]; rfl), on1 hB1 hB2 (Nat.le_refl _)⟩
  · have HE : Hid (nmErr L a = (ksErr L).2 ∧ ¬ (ksErr L).2 = 0 ∧ fAt L a = 0) := by
      have e5 : nmErr L a = (ksErr L).2 := by unfold nmErr; rw [if_neg e1]
      exact ⟨e5, e1, by unfold fAt; rw [if_neg (by rw [e5]; exact e1)]⟩
    rw [errV_ne e1] at c1
    generalize bs (ksErr L).1 = nm at c1
    clear h hz e1 hP
    go_enter Tryz.func63, Tryz.ntmps63
    go_wp2_with (go_at_call 21; refine c1.mono ?_; rintro e W1 ⟨rfl, hB1⟩)
    go_ret2
    exact ⟨ret_v (by rw [HE.out.1, errV_ne HE.out.2.1, HE.out.2.2]; rfl), hB1⟩

theorem nmErr_zero {L : List Kd} {a : Nm} (h : nmErr L a = 0) : Good L ∧ L.length ≤ 12 ∧ ∃ j q, idxK a L 0 = ((j : Nat) : Int) ∧ nmAt L a = j ∧ L[j]? = some q ∧ q.nm = a := by
  unfold nmErr at h
  split at h
  · rename_i h1
    split at h
    · exact absurd h (by decide)
    · rename_i h2
      obtain ⟨g1, g2⟩ := ksErr_good.1 h1
      obtain ⟨j, q, e1, e2, e3⟩ := idxK_has h2
      exact ⟨g1, g2, j, q, e1, by unfold nmAt; rw [e1]; rfl, e2, e3⟩
  · rename_i h1; exact absurd h h1
theorem kinTake {b off cap : Nat} {L : List Kd} {w : World} (hb : b < w.heap.size) (hL : LiesK w b off L) (hP : Parts w L) (hS : Small L) (hn : L.length ≤ 12) {i : Nat} {z : Kd} (hi : L[i]? = some z) :
    Calls Tryz.prog 64 #[.slice (some ⟨b, off, none⟩) (i + 1) cap] w fun e w' => ∃ v, e = .returned v ∧ w'.ownsRow w.heap.size 55 3 v (kinOf (L.take (i + 1))).length (cellsK (kinOf (L.take (i + 1)))) ∧ Below w.heap.size w w' := by
  have hlt := (List.getElem?_eq_some_iff.1 hi).1
  have hl : (L.take (i + 1)).length = i + 1 := List.length_take_of_le (by omega)
  have c := kinOf_some b off cap (L.take (i + 1)) z w (by rw [takeK hi]; simp) hb (hL.take _) (hP.sub (fun k hk => List.mem_of_mem_take hk)) (fun k hk => hS k (List.mem_of_mem_take hk)) (by omega)
  rw [hl] at c
  exact c
theorem kin_facts {L : List Kd} (i : Nat) (w : World) (hP : Parts w L) (hS : Small L) (hn : L.length ≤ 12) : Parts w (kinOf (L.take i)) ∧ Small (kinOf (L.take i)) ∧ (kinOf (L.take i)).length ≤ 12 := by
  obtain ⟨h1, h2⟩ := kinOf_sub (L.take i)
  refine ⟨hP.sub (fun k hk => List.mem_of_mem_take (h1 k hk)), fun k hk => hS k (List.mem_of_mem_take (h1 k hk)), ?_⟩
  simp at h2; omega



theorem kinOf_ne {L : List Kd} {z : Kd} (h : L.getLast? = some z) : ¬ kinOf L = [] := by
  unfold kinOf
  rw [h]
  obtain ⟨A, rfl⟩ : ∃ A, L = A ++ [z] := ⟨L.dropLast, by
    have hne : L ≠ [] := fun e => by rw [e] at h; simp at h
    have e1 := List.dropLast_concat_getLast hne
    rw [List.getLast?_eq_some_getLast hne] at h
    rw [Option.some.inj h] at e1
    exact e1.symm⟩
  have h1 : hasN [z.nm] z.nm = true := by unfold hasN; simp
  simp [back, h1]
def KPost (w : World) (L : List Kd) (a : Nm) (e : Ending) (w' : World) : Prop :=
  ∃ v, e = .returned (.tuple #[v, errV (nmErr L a)]) ∧ (nmErr L a = 0 → w'.ownsRow w.heap.size 9 1 v (nms (kin L a)).length (cellsS (nms (kin L a)))) ∧ (¬ nmErr L a = 0 → v = .slice none 0 0) ∧ Below w.heap.size w w'
def NR (w : World) (kk : List Kd) (v8 i : Value) (wr : World) : Prop :=
  ∃ k : Nat, k ≤ kk.length ∧ i = .int .i64 k ∧ wr.ownsRow w.heap.size 9 1 v8 (nms (kk.take k)).length (cellsS (nms (kk.take k))) ∧ Below w.heap.size w wr

set_option maxHeartbeats 4000000 in
set_option maxRecDepth 100000 in
theorem kin_any {v : Value} {L : List Kd} {w : World} (h : IsK w v L) (hP : Parts w L) (hz : SzK L) (a : Nm) : Calls Tryz.prog 41 #[v, .string (bs a)] w (KPost w L a) := by
  obtain ⟨i0, hi0, hz0, hz1, hz2⟩ := info_parts info9
  have c1 := find_any h hP hz a
  by_cases e1 : nmErr L a = 0
  · obtain ⟨hG, hn, j, q, hx, hat, hq, hqa⟩ := nmErr_zero e1
    have hjl := (List.getElem?_eq_some_iff.1 hq).1
    have hA : fAt L a = (j : Int) := by unfold fAt; rw [if_pos e1, hx]
    have hkin : kin L a = kinOf (L.take (j + 1)) := by unfold kin; rw [hat]
    rcases h with ⟨rfl, rfl⟩ | ⟨b, off, cap, rfl, hc, hm, hb, hl⟩
    · simp at hq
    · have HH : Hid (LiesK w b off L ∧ Parts w L ∧ Small L ∧ L.length ≤ 12 ∧ L[j]? = some q ∧ kin L a = kinOf (L.take (j + 1)) ∧ nmErr L a = 0) := ⟨hl, hP, hG.small, hn, hq, hkin, e1⟩
      rw [hA, e1, errV_0] at c1
      have hj12 : j < 12 := by omega
      have hj1 : (j : Int) + 1 ≤ (cap : Int) := by omega
      unfold maxLen at hm
      clear hz e1 hG hx hat hq hqa hA hkin hl hP
      go_enter Tryz.func41, Tryz.ntmps41
      go_wp2_with (go_at_call 63; refine c1.mono ?_; rintro e W1 ⟨rfl, hB1⟩; refine Hid.out ?_)
      refine Lib.hid ?_
      have c2 := kinTake (cap := cap) (Nat.lt_of_lt_of_le hb hB1.size) (HH.out.1.on hb hB1) (HH.out.2.1.on hB1) HH.out.2.2.1 HH.out.2.2.2.1 HH.out.2.2.2.2.1
      clear c1
      go_wp2_with (go_at_call 64; refine c2.mono ?_; rintro e W2 ⟨v2, rfl, hown2, hB2⟩; refine Hid.out ?_)
      refine Lib.hid ?_
      have hBw2 := on1 hB1 hB2 (Nat.le_refl _)
      obtain ⟨f1, f2, f3⟩ := kin_facts (j + 1) W2 (HH.out.2.1.on hBw2) HH.out.2.2.1 HH.out.2.2.2.1
      have hne : ¬ kinOf (L.take (j + 1)) = [] := kinOf_ne (z := q) (by rw [takeK HH.out.2.2.2.2.1]; simp)
      have HKE : Hid (kin L a = kinOf (L.take (j + 1)) ∧ nmErr L a = 0) := HH.out.2.2.2.2.2
      have hK := own_isK hown2
      obtain ⟨kk, hkk⟩ : ∃ kk, kk = kinOf (L.take (j + 1)) := ⟨_, rfl⟩
      rw [← hkk] at f1 f2 f3 hne hK HKE
      clear c2 hown2 hkk HH
      rcases hK with ⟨_, h0⟩ | ⟨bk, ok, ck, rfl, hck, hckm, hbk, hlk⟩
      · exact absurd h0 hne
      · have HK : Hid (LiesK W2 bk ok kk ∧ Parts W2 kk) := ⟨hlk, f1⟩
        have HB2 : Hid (Below w.heap.size w W2) := hBw2
        clear hlk f1 f2 hne hB1 hB2 hBw2
        go_wp2
        go_loopw [8, 26] (fun v8 i wr => NR W2 kk v8 i wr) (fun _ i _ => kk.length - (intOf i).toNat)
        case atStart => exact ⟨0, Nat.zero_le _, rfl, World.ownsRow_nil _ _ _ _, Below.refl _ _⟩
        case round =>
          obtain ⟨k, hk, rfl, ho, hB⟩ := hrel
          by_cases hlt : k < kk.length
          · obtain ⟨p, hp⟩ : ∃ p, kk[k]? = some p := ⟨kk[k], by simp [hlt]⟩
            obtain ⟨c0, c1, c2⟩ := HK.out.1 k p hp
            have hpm : p ∈ kk := List.mem_of_getElem? hp
            obtain ⟨ao, no, co, evo⟩ := (HK.out.2 p hpm).1.sl
            obtain ⟨af, nf, cf, evf⟩ := (HK.out.2 p hpm).2.sl
            rw [evo] at c1
            rw [evf] at c2
            have d0 := (hB.cell (p := ⟨bk, ok + k * 3, none⟩) hbk).trans c0
            have d1 := (hB.cell (p := ⟨bk, ok + k * 3 + 1, none⟩) hbk).trans c1
            have d2 := (hB.cell (p := ⟨bk, ok + k * 3 + 2, none⟩) hbk).trans c2
            have HD : Hid (kk.take (k + 1) = kk.take k ++ [p]) := takeK hp
            have hbr : bk < wr.heap.size := Nat.lt_of_lt_of_le hbk hB.size
            have hln : (nms (kk.take k)).length = k := by unfold nms; rw [List.length_map, List.length_take_of_le hk]
            have HM : Hid ((nms (kk.take k)).length + 1 ≤ maxLen ∧ ((nms (kk.take k)).length + 1) * 16 ≤ 140737488355328) := by rw [hln]; unfold maxLen; exact ⟨by omega, by omega⟩
            have hB0 : Below W2.heap.size W2 ((wr.alloc (.cells #[.string (bs p.nm), .slice ao no co, .slice af nf cf] 55)).alloc (.cells #[.string (bs p.nm)] 9)) := b_alloc (b_alloc hB (Nat.le_refl _) _) (Nat.le_refl _) _
            have HO : Hid (((wr.alloc (.cells #[.string (bs p.nm), .slice ao no co, .slice af nf cf] 55)).alloc (.cells #[.string (bs p.nm)] 9)).ownsRow W2.heap.size 9 1 u8 (nms (kk.take k)).length (cellsS (nms (kk.take k))) ∧ Below W2.heap.size W2 ((wr.alloc (.cells #[.string (bs p.nm), .slice ao no co, .slice af nf cf] 55)).alloc (.cells #[.string (bs p.nm)] 9))) := ⟨(ho.alloc _).alloc _, hB0⟩
            clear c0 c1 c2 hpm hp ho hB hB0 hln evo evf
            go_wp2_with (at_builtin; refine wpList_append_own _ rfl (.tmp 30) (.tmp 33) 45 rfl W2.heap.size 9 i0 _ 1 16 Tryz.underlying45 hi0 hz0 hz1 hz2 rfl (by decide) u8 (nms (kk.take k)).length (cellsS (nms (kk.take k))) rfl HO.out.1 ⟨wr.heap.size + 1, 0, none⟩ 1 1 [.string (bs p.nm)] (by simp [Act.eval]) rfl (by have := new_at (wr.alloc (.cells #[.string (bs p.nm), .slice ao no co, .slice af nf cf] 55)) [.string (bs p.nm)] 9; simpa using this) (by simp [Value.oneCell']) HM.out.1 HM.out.2 HO.out.2.size ?_; intro v1 w1 hown1 hgrow1 _; refine Hid.out ?_)
            refine Lib.hid ?_
            have R : NR W2 kk v1 (.int .i64 ((k + 1 : Nat) : Int)) w1 := by
              refine ⟨k + 1, by omega, rfl, ?_, HO.out.2.grown hgrow1 HO.out.2.size (fun k hk => (HO.out.1.lt k hk).1)⟩
              rw [HD.out]; unfold nms at *
              rw [List.map_append, List.length_append, cellsS_app]
              exact hown1
            have HRR : Hid (NR W2 kk v1 (.int .i64 ((k + 1 : Nat) : Int)) w1) := R
            clear R hown1
            go_wp2
            refine ⟨?_, ?_⟩
            · first | exact HRR.out | ((repeat apply Exists.intro); refine ⟨?_, rfl⟩; exact HRR.out)
            · simp [intOf]
              try omega
          · have hke : kk.take k = kk := List.take_of_length_le (by omega)
            rw [hke] at ho
            have HO : Hid (wr.ownsRow W2.heap.size 9 1 u8 (nms kk).length (cellsS (nms kk)) ∧ Below W2.heap.size W2 wr) := ⟨ho, hB⟩
            clear ho hB hke
            go_wp2
            go_ret2
            refine ⟨_, ret_v (by rw [HKE.out.2]; rfl), fun _ => ?_, fun h => absurd HKE.out.2 h, on1 HB2.out HO.out.2 (Nat.le_refl _)⟩
            rw [HKE.out.1]
            exact own_base HO.out.1 HB2.out.size
  · have hA : fAt L a = 0 := by unfold fAt; rw [if_neg e1]
    have HE : Hid (¬ nmErr L a = 0) := e1
    rw [errV_ne e1, hA] at c1
    clear h hP hz e1 hA
    go_enter Tryz.func41, Tryz.ntmps41
    go_wp2_with (go_at_call 63; refine c1.mono ?_; rintro e W1 ⟨rfl, hB1⟩)
    go_ret2
    exact ⟨.slice none 0 0, ret_v (by rw [errV_ne HE.out]; rfl), fun h => absurd h HE.out, fun _ => rfl, hB1⟩
end Go.Proofs.YtgjlonilbhlneaaGreatDoor
