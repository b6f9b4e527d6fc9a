/-
  The walks of record.Check at every record, and of record.merged with one property.
-/
import Derived.Test.YtghlncdnnmpikaaGreatDoorRecA
import Derived.Deep.RegionLaw
namespace Go.Proofs.YtghlncdnnmpikaaGreatDoor
open Go.RowKit
set_option linter.unusedVariables false
set_option linter.unusedSimpArgs false

/-- The value is this record. -/
def IsRec (w : World) (v : Value) (L : List Pr) : Prop :=
  (v = .slice none 0 0 ∧ L = []) ∨ ∃ b off cap, v = .slice (some ⟨b, off, none⟩) L.length cap ∧ L.length ≤ cap ∧ b < w.heap.size ∧ Lies w b off L

theorem Lies.on {w w' : World} {b off : Nat} {L : List Pr} (h : Lies w b off L) (hb : b < w.heap.size) (hB : Below w.heap.size w w') : Lies w' b off L := fun k p hp => by
  obtain ⟨c0, c1, c2, c3⟩ := h k p hp
  exact ⟨(hB.cell hb).trans c0, (hB.cell hb).trans c1, (hB.cell hb).trans c2, (hB.cell hb).trans c3⟩
theorem IsRec.on {w w' : World} {v : Value} {L : List Pr} (h : IsRec w v L) (hB : Below w.heap.size w w') : IsRec w' v L := by
  rcases h with h | ⟨b, off, cap, hv, hc, hb, hl⟩
  · exact .inl h
  · exact .inr ⟨b, off, cap, hv, hc, Nat.lt_of_lt_of_le hb hB.size, hl.on hb hB⟩

set_option maxHeartbeats 1000000 in
theorem rcheck_nil (w : World) : Calls Tryz.prog 7 #[.slice none 0 0] w fun e w' => e = .returned (errV (rErr [])) ∧ Below w.heap.size w w' := by
  go_enter Tryz.func7, Tryz.ntmps7
  go_wp2
  go_loopw [13] (fun i wr => i = .int .i64 0 ∧ wr = w) (fun i _ => 0)
  case atStart => exact ⟨rfl, rfl⟩
  case round =>
    obtain ⟨rfl, rfl⟩ := hrel
    go_wp2
    go_ret
    exact ⟨rfl, Below.refl _ _⟩
set_option maxHeartbeats 1000000 in
theorem rcheck_many (ao : Option Addr) (n cap : Nat) (w : World) (h : 8 < n) (hm : n ≤ maxLen) : Calls Tryz.prog 7 #[.slice ao n cap] w fun e w' => e = .returned (.iface 53 (.int .i64 4)) ∧ Below w.heap.size w w' := by
  unfold maxLen at hm
  go_enter Tryz.func7, Tryz.ntmps7
  go_wp2
  go_ret
  exact ⟨rfl, Below.refl _ _⟩
theorem rcheck_any {v : Value} {L : List Pr} {w : World} (h : IsRec w v L) (hs : Sz L) (hm : L.length ≤ maxLen) : Calls Tryz.prog 7 #[v] w fun e w' => e = .returned (errV (rErr L)) ∧ Below w.heap.size w w' := by
  rcases h with ⟨rfl, rfl⟩ | ⟨b, off, cap, rfl, hc, hb, hl⟩
  · exact rcheck_nil w
  · by_cases h8 : 8 < L.length
    · have e : rErr L = 4 := by unfold rErr; rw [if_pos h8]
      rw [e]; exact rcheck_many _ _ _ _ h8 hm
    · have e : rErr L = chk none L := by unfold rErr; rw [if_neg h8]
      rw [e]; exact rcheck_some b off cap L w hb hl hs (by omega)

/-- A record with a property, in the place of one of its name. -/
def ins (p : Pr) : List Pr → List Pr
  | [] => [p]
  | a :: r => if a.lt p = true then a :: ins p r else if (a.nm.toList == p.nm.toList) = true then p :: r else p :: a :: r

/-- All cells. -/
def cellsOf (L : List Pr) : List Value := L.flatMap Pr.cells

theorem cellsOf_snoc (L : List Pr) (p : Pr) : cellsOf (L ++ [p]) = cellsOf L ++ p.cells := by simp [cellsOf]
theorem cellsOf_app (L M : List Pr) : cellsOf (L ++ M) = cellsOf L ++ cellsOf M := by simp [cellsOf]
theorem cellsOf_len (L : List Pr) : (cellsOf L).length = L.length * 4 := by
  induction L with
  | nil => rfl
  | cons a r ih => simp [cellsOf, Pr.cells] at ih ⊢; omega
theorem cellsOf_one (L : List Pr) : ∀ u ∈ cellsOf L, u.oneCell' = true := by
  intro u hu
  obtain ⟨p, _, hp⟩ := List.mem_flatMap.1 hu
  simp [Pr.cells] at hp
  rcases hp with rfl | rfl | rfl | rfl <;> rfl

theorem info33 : (Tryz.prog.info? 27).map (fun i => (i.zero, i.size, i.bytes)) = some (some (.agg #[.string ⟨#[]⟩, .int .i64 0, .int .i64 0, .string ⟨#[]⟩]), 4, 48) := by kernel_rfl

/-- append to a slice that the call itself made, as one step of a region that draws. -/
theorem step_append_own {P : Program} {ops : Array Oper} {o : Oper} {a : Act} {w : World} {K : Act → World → Prop} {Q : Exit → Act → World → Prop} {E : Prop}
    (hg : o.guard = none) (s x : Operand) (t : TypeId) (ho : o.op = .call { callee := .builtin .append, args := #[s, x], argTypes := #[t, t] })
    (base : Nat) (e : TypeId) (i : TypeInfo) (z : Value) (size bytes : Nat) (ht : P.underlying t = some (.slice e)) (hi : P.info? e = some i) (hz : i.zero = some z)
    (hsize : i.size = size) (hby : i.bytes = bytes) (hzs : z.cells.size = size) (hsz : 0 < size)
    (v : Value) (n : Nat) (xs : List Value) (hs : a.eval s = v) (hown : w.ownsRow base e size v n xs)
    (ad : Addr) (m c : Nat) (news : List Value) (hx : a.eval x = .slice (some ad) m c) (hl : news.length = m * size) (hnews : ∀ j u, news[j]? = some u → w.cell? (ad.add j) = some u) (h1 : ∀ u ∈ news, u.oneCell' = true)
    (h63 : n + m ≤ maxLen) (hbytes : (n + m) * bytes ≤ 140737488355328) (hbase : base ≤ w.heap.size)
    (hK : ∀ v' w', w'.ownsRow base e size v' (n + m) (xs ++ news) → w.grownBy w' v.ownBlock → K (a.put o.dst v') w') :
    if Region.wanted o (yielded ops a.tmps) = true then Oper.wp P o a w K Q else E := by
  have hw : Region.wanted o (yielded ops a.tmps) = true := by simp [Region.wanted, hg]
  rw [if_pos hw]
  exact wp_append_own w s x t ho base e i z size bytes ht hi hz hsize hby hzs hsz v n xs hs hown ad m c news hx hl hnews h1 h63 hbytes hbase (fun v' w' h2 h3 _ => hK v' w' h2 h3)

end Go.Proofs.YtghlncdnnmpikaaGreatDoor
