/-
  Lists of records in memory; what package rows says of them, in plain functions; the walk of checkAsked.
-/
import Derived.Test.YtodddcacngjadaaRecG
import Derived.Test.YtodddcacngjadaaGen
namespace Go.Proofs.Ytodddcacngjadaa
open Go.RowKit
set_option linter.unusedVariables false
set_option linter.unusedSimpArgs false

/-- A record in a list: its slice, and what lies there. -/
structure Rv where
  rv : Value
  rc : List Pr
def LiesRs (w : World) (b off : Nat) (L : List Rv) : Prop := ∀ k x, L[k]? = some x → w.cell? ⟨b, off + k, none⟩ = some x.rv ∧ IsR w x.rv x.rc
/-- A list of records. -/
def IsRs (w : World) (v : Value) (L : List Rv) : Prop :=
  ∃ ao c, v = .slice ao L.length c ∧ (L = [] ∨ ∃ b off, ao = some ⟨b, off, none⟩ ∧ b < w.heap.size ∧ LiesRs w b off L)
theorem LiesRs.on {w w' : World} {b off : Nat} {L : List Rv} (h : LiesRs w b off L) (hb : b < w.heap.size) (hB : Below w.heap.size w w') : LiesRs w' b off L := fun k x hx => by
  obtain ⟨c0, c1⟩ := h k x hx
  exact ⟨(hB.cell hb).trans c0, c1.on hB⟩
theorem IsRs.on {w w' : World} {v : Value} {L : List Rv} (h : IsRs w v L) (hB : Below w.heap.size w w') : IsRs w' v L := by
  obtain ⟨ao, c, rfl, h0 | ⟨b, off, rfl, hb, hL⟩⟩ := h
  · exact ⟨ao, c, rfl, .inl h0⟩
  · exact ⟨_, c, rfl, .inr ⟨b, off, rfl, Nat.lt_of_lt_of_le hb hB.size, hL.on hb hB⟩⟩
/-- Texts are not too long for memory. -/
def SzRs (L : List Rv) : Prop := ∀ x ∈ L, Sz x.rc ∧ x.rc.length ≤ maxLen
/-- The first fault of records. -/
def rsE : List Rv → Int
  | [] => 0
  | x :: r => if rErr x.rc = 0 then rsE r else rErr x.rc
/-- What is wrong with records, or with the name by which they are asked. -/
def askRE (L : List Rv) (nm : List UInt8) : Int := if 200 < L.length then 4 else if rsE L = 0 then nErr nm else rsE L
theorem rsE_drop {L : List Rv} {k : Nat} {x : Rv} (hx : L[k]? = some x) : rsE (L.drop k) = if rErr x.rc = 0 then rsE (L.drop (k + 1)) else rErr x.rc := by
  rw [dropN hx, rsE]
theorem rsE_all {L : List Rv} (h : rsE L = 0) : ∀ x ∈ L, rErr x.rc = 0 := by
  induction L with
  | nil => intro x hx; simp at hx
  | cons a r ih =>
    intro x hx
    rw [rsE] at h
    by_cases h1 : rErr a.rc = 0
    · rw [if_pos h1] at h
      rcases List.mem_cons.1 hx with rfl | hx
      · exact h1
      · exact ih h x hx
    · rw [if_neg h1] at h; exact absurd h h1
theorem askRE_ok {L : List Rv} {nm : List UInt8} (h : askRE L nm = 0) : L.length ≤ 200 ∧ rsE L = 0 ∧ nErr nm = 0 := by
  unfold askRE at h
  by_cases h1 : 200 < L.length
  · rw [if_pos h1] at h; exact absurd h (by decide)
  · rw [if_neg h1] at h
    by_cases h2 : rsE L = 0
    · rw [if_pos h2] at h; exact ⟨by omega, h2, h⟩
    · rw [if_neg h2] at h; exact absurd h h2

set_option maxHeartbeats 4000000 in
set_option maxRecDepth 100000 in
theorem checkAsked_any {v : Value} {L : List Rv} {w : World} (h : IsRs w v L) (hz : SzRs L) (hm : L.length ≤ maxLen) (s : ByteArray) (hs : s.size ≤ maxLen) :
    Calls Try.prog 9 #[v, .string s] w fun e w' => e = .returned (errV (askRE L s.data.toList)) ∧ Below w.heap.size w w' := by
  obtain ⟨av, cv, rfl, hcells⟩ := h
  unfold maxLen at hm
  by_cases h2 : 200 < L.length
  · have he : askRE L s.data.toList = 4 := by unfold askRE; rw [if_pos h2]
    rw [he, errV_4]
    clear he hcells
    go_enter Try.func9, Try.ntmps9
    go_wp2
    go_ret
    exact ⟨rfl, Below.refl _ _⟩
  · have HE : Hid (askRE L s.data.toList = if rsE L = 0 then nErr s.data.toList else rsE L) := by show _ = _; unfold askRE; rw [if_neg h2]
    have HZ := Lib.hid hz
    have HC := Lib.hid hcells
    have cN := fun W => name_any s W hs
    generalize hq : askRE L s.data.toList = q at HE ⊢
    clear hz hcells hq
    go_enter Try.func9, Try.ntmps9
    go_wp2
    go_loopw [14] (fun i wr => ∃ k : Nat, k ≤ L.length ∧ i = .int .i64 (k : Int) ∧ rsE L = rsE (L.drop k) ∧ Below w.heap.size w wr) (fun i wr => L.length - (intOf i).toNat)
    case atStart => exact ⟨0, Nat.zero_le _, rfl, rfl, Below.refl _ _⟩
    case round =>
      obtain ⟨k, hk, rfl, he, hB⟩ := hrel
      have HR := Lib.hid he
      have HB := Lib.hid hB
      clear he
      by_cases hlt : k < L.length
      · obtain ⟨x, hx⟩ : ∃ x, L[k]? = some x := ⟨_, List.getElem?_eq_getElem hlt⟩
        obtain ⟨b, off, rfl, hbl, hL⟩ := HC.out.resolve_left (fun e => by rw [e] at hlt; simp at hlt)
        obtain ⟨l0, hR⟩ := (hL.on hbl hB) k x hx
        have hxz := HZ.out x (List.mem_of_getElem? hx)
        have cR := rcheck_r hR hxz.1 hxz.2
        have hd := rsE_drop hx
        clear hL hR hxz hB
        by_cases hz0 : rErr x.rc = 0
        · rw [hz0, errV_0] at cR
          have HE2 : Hid (rsE L = rsE (L.drop (k + 1))) := by show _ = _; rw [HR.out, hd, if_pos hz0]
          clear hz0 hd hx
          go_wp2_with (go_at_call 22; refine cR.mono ?_; rintro e W2 ⟨rfl, hB2⟩)
          go_roundw
          case rel => exact ⟨k + 1, by omega, by go_num, HE2.out, on1R HB.out hB2⟩
          case measure => simp [intOf]; omega
        · rw [errV_ne hz0] at cR
          have HE2 : Hid (q = rErr x.rc) := by
            show _ = _
            rw [HE.out, HR.out, hd, if_neg hz0, if_neg hz0]
          have HZ0 := Lib.hid hz0
          clear hz0 hd hx
          go_wp2_with (go_at_call 22; refine cR.mono ?_; rintro e W2 ⟨rfl, hB2⟩)
          go_ret
          exact ⟨ret_v (by rw [HE2.out, errV_ne HZ0.out]; rfl), on1R HB.out hB2⟩
      · have HE2 : Hid (q = nErr s.data.toList) := by show _ = _; rw [HE.out, HR.out, List.drop_eq_nil_of_le (by omega)]; rfl
        generalize nErr s.data.toList = z at cN HE2
        clear hB
        go_wp2_with (go_at_call 23; refine (cN _).mono ?_; rintro e w' ⟨rfl, rfl⟩)
        go_ret
        exact ⟨ret_v (by rw [HE2.out]; rfl), HB.out⟩
end Go.Proofs.Ytodddcacngjadaa
