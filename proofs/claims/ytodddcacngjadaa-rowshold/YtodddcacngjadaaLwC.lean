/-
  What the law asks of Group, and of Sort.
-/
import Derived.Test.YtodddcacngjadaaLwB
namespace Go.Proofs.Ytodddcacngjadaa
open Go.RowKit
set_option linter.unusedVariables false
set_option linter.unusedSimpArgs false

/-- What the law asks of Group. -/
def GrQ (w : World) (N : Nat) (e : Ending) (w' : World) : Prop :=
  ∃ (v : Value) (S2 : List Rv) (cs : List Nat) (ee : Int), e = .returned (.tuple #[v, errV ee]) ∧ IsRs w' v S2 ∧ S2.length = cs.length ∧ cs.length ≤ 200 ∧ (∀ (k : Nat) x, S2[k]? = some x → ∃ c, cs[k]? = some c ∧ 1 ≤ c ∧ rErr x.rc = 0 ∧ vOf [110] x.rc = some ⟨1, (c : Int), ⟨#[]⟩⟩) ∧ cs.sum ≤ 200 ∧ (ee = 0 → cs.sum = N) ∧ Below w.heap.size w w'
theorem groupQ_any {v : Value} {L : List Rv} {w : World} (h : IsRs w v L) (hz : SzRs L) (hm : L.length ≤ maxLen) (s : ByteArray) (hs : s.size ≤ maxLen) (he : askRE L s.data.toList = 0) :
    Calls Try.prog 7 #[v, .string s] w (GrQ w (haveL s.toList L).length) := by
  obtain ⟨hl, hr, hne⟩ := askRE_ok he
  by_cases hsn : (s.toList == [110]) = true
  · refine (group_n h hz hm s hs he hsn).mono ?_
    rintro e w' ⟨rfl, hB⟩
    exact ⟨.slice none 0 0, [], [], 3, rfl, ⟨none, 0, rfl, .inl rfl⟩, rfl, by simp, fun k x hx => by simp at hx, by simp, fun h => absurd h (by decide), hB⟩
  · refine (group_ok h hz hm s hs he (by simpa using hsn)).mono ?_
    rintro e w' ⟨v6, ss, rfl, hnd, hS, hO, hB⟩
    have hok := have_ok h hz hr s.toList
    obtain ⟨S2, hS2, hIs⟩ := hO.isRs
    have hlen : S2.length = ss.length := by have := congrArg List.length hS2; simpa using this
    have hll : ((haveL s.toList L).map k3).length ≤ 200 := by rw [List.length_map]; exact Nat.le_trans (have_len _ _) hl
    have hsum := sum_count ((haveL s.toList L).map k3) ss hnd (fun x hx => (hS x).2 hx)
    have hsl := len_sub ss _ hnd (fun x hx => (hS x).1 hx)
    refine ⟨v6, S2, ss.map fun x => ((haveL s.toList L).map k3).count x, 0, rfl, hIs, by rw [List.length_map]; exact hlen, by rw [List.length_map]; omega, fun k x hx => ?_, by rw [hsum]; exact hll, fun _ => by rw [hsum, List.length_map], hB⟩
    have hk : k < ss.length := by have := (List.getElem?_eq_some_iff.1 hx).1; omega
    obtain ⟨y, hy⟩ : ∃ y, ss[k]? = some y := ⟨_, List.getElem?_eq_getElem hk⟩
    have hyl := (hS y).1 (List.mem_of_getElem? hy)
    have hc1 : 1 ≤ ((haveL s.toList L).map k3).count y := List.count_pos_iff.2 hyl
    have hc2 : ((haveL s.toList L).map k3).count y ≤ 200 := Nat.le_trans List.count_le_length hll
    have e1 : (S2.map Rv.rc)[k]? = some x.rc := by rw [List.getElem?_map, hx]; rfl
    rw [hS2, List.getElem?_map, hy] at e1
    have e2 : grp s y (((haveL s.toList L).map k3).count y : Nat) = x.rc := Option.some.inj e1
    obtain ⟨z, hz', rfl⟩ := List.mem_map.1 hyl
    have hv := hok z hz'
    have hg := grp_err (c := (((haveL s.toList L).map k3).count (k3 z) : Nat)) (one_err (nm := s) (x := k3 z) hne ⟨hv.1, hv.2.1⟩) (by omega) (by omega)
    refine ⟨_, by rw [List.getElem?_map, hy]; rfl, hc1, by rw [← e2]; exact hg.1, ?_⟩
    rw [← e2]
    unfold vOf
    rw [grp_look]; rfl
/-- What the law asks of Sort. -/
def SoQ (w : World) (nm : List UInt8) (down : Bool) (L : List Rv) (e : Ending) (w' : World) : Prop :=
  ∃ (v : Value) (H : List HvS) (S : List Rv), e = .returned (.tuple #[v, .nilIface]) ∧ IsRs w' v S ∧ Srtd nm down L H S ∧ Below w.heap.size w w'
theorem sortQ_any {v : Value} {L : List Rv} {w : World} (h : IsRs w v L) (hz : SzRs L) (hm : L.length ≤ maxLen) (s : ByteArray) (hs : s.size ≤ maxLen) (down : Bool) (he : askRE L s.data.toList = 0) :
    Calls Try.prog 4 #[v, .string s, .bool down] w (SoQ w s.toList down L) := by
  refine (sort_ok h hz hm s hs down he).mono ?_
  rintro e w' ⟨v', H, rfl, hp, hpw, hO, hB⟩
  obtain ⟨S, hS, hIs⟩ := hO.isRs
  exact ⟨v', H, S, rfl, hIs, srtd_of (askRE_ok he).2.1 hp hpw hS, hB⟩

set_option maxHeartbeats 8000000 in
set_option maxRecDepth 100000 in
theorem law_no {v : Value} {L : List Rv} {w : World} (h : IsRs w v L) (hz : SzRs L) (hm : L.length ≤ maxLen) (s : ByteArray) (hs : s.size ≤ maxLen) (down : Bool) (he : ¬ askRE L s.data.toList = 0) :
    Calls Try.prog 3 #[v, .string s, .bool down] w fun e w' => e = .returned (.bool true) ∧ Below w.heap.size w w' := by
  have cF := fact_any w _ rfl
  have c2 := fun (W : World) (hW : Below w.heap.size w W) => sort_err (h.on hW) hz hm s hs down he
  generalize askRE L s.data.toList = ee at c2
  clear h hz hm he
  go_enter Try.func3, Try.ntmps3
  go_wp2_with (first | (go_at_call 4; refine cF.mono ?_; rintro e W4 ⟨g, cg, g0, c0, rfl, f0, f1, hB4⟩; refine Hid.out ?_))
  refine Lib.hid ?_
  have c3 := c2 W4 hB4
  clear cF c2
  go_wp2_with (first | (go_at_call 4; refine c3.mono ?_; rintro e W5 ⟨rfl, hB5⟩))
  go_ret
  exact ⟨rfl, on1R hB4 hB5⟩
end Go.Proofs.Ytodddcacngjadaa
