/-
  The walks of record.Join with one property, and of record.Set.
-/
import Derived.Test.YtodddcacngjadaaRsC
import Derived.Lib.Hide
namespace Go.Proofs.Ytodddcacngjadaa
open Go.RowKit
set_option linter.unusedVariables false
set_option linter.unusedSimpArgs false



set_option maxHeartbeats 4000000 in
set_option maxRecDepth 100000 in
theorem merged_nil (b2 o2 : Nat) (p : Pr) (w : World) (hb2 : b2 < w.heap.size) (hp : Lies w b2 o2 [p]) :
    Calls Try.prog 44 #[.slice none 0 0, .slice (some ⟨b2, o2, none⟩) 1 1] w fun e w' => ∃ v, e = .returned v ∧ w'.ownsRow w.heap.size 26 4 v (ins p []).length (cellsOf (ins p [])) ∧ Below w.heap.size w w' := by
  obtain ⟨i0, hi0, hz0, hz1, hz2⟩ := info_parts info33
  have HP : Hid (Lies w b2 o2 [p]) := hp
  clear hp
  go_enter Try.func44, Try.ntmps44
  go_wp2
  go_loopw [0, 1, 5] (fun a bb all wr => a = .slice none 0 0 ∧ bb = .slice (some ⟨b2, o2, none⟩) 1 1 ∧ all = .slice none 0 0 ∧ wr = w) (fun _ _ _ _ => 0)
  case atStart => exact ⟨rfl, rfl, rfl, rfl⟩
  case round =>
    obtain ⟨rfl, rfl, rfl, rfl⟩ := hrel
    go_wp2_with (first
      | (at_builtin; refine wpList_append_own _ rfl (.tmp 52) (.tmp 53) 28 rfl wr.heap.size 26 i0 _ 4 48 Try.underlying28 hi0 hz0 hz1 hz2 rfl (by decide) (.slice none 0 0) 0 [] rfl (World.ownsRow_nil _ _ _ _) ⟨b2, o2, none⟩ 1 1 (cellsOf [p]) rfl rfl (lies_cells HP.out) (cellsOf_one [p]) (by decide) (by decide) (Nat.le_refl _) ?_; intro v2 w2 hown2 hgrow2 _))
    go_ret
    refine ⟨v2, rfl, ?_, (Below.refl _ _).grown hgrow2 (Nat.le_refl _) (fun k hk => by cases hk)⟩
    simpa [ins] using hown2

theorem merged_any {v : Value} {L : List Pr} {w : World} (h : IsRec w v L) (hn : L.length ≤ 8) (b2 o2 : Nat) (p : Pr) (hb2 : b2 < w.heap.size) (hp : Lies w b2 o2 [p]) :
    Calls Try.prog 44 #[v, .slice (some ⟨b2, o2, none⟩) 1 1] w fun e w' => ∃ v, e = .returned v ∧ w'.ownsRow w.heap.size 26 4 v (ins p L).length (cellsOf (ins p L)) ∧ Below w.heap.size w w' := by
  rcases h with ⟨rfl, rfl⟩ | ⟨b, off, cap, rfl, hc, hb, hl⟩
  · exact merged_nil b2 o2 p w hb2 hp
  · exact merged_some b off cap b2 o2 p L w hb hl hn hc hb2 hp

theorem cellsOf_at {M : List Pr} {k : Nat} {p : Pr} (h : M[k]? = some p) : (cellsOf M)[k * 4]? = some (.string p.nm) ∧ (cellsOf M)[k * 4 + 1]? = some (.int .i64 p.t) ∧ (cellsOf M)[k * 4 + 2]? = some (.int .i64 p.n) ∧ (cellsOf M)[k * 4 + 3]? = some (.string p.s) := by
  induction M generalizing k with
  | nil => simp at h
  | cons a r ih =>
    cases k with
    | zero => simp at h; subst h; simp [cellsOf, Pr.cells]
    | succ k =>
      have := ih (k := k) (by simpa using h)
      have e : ∀ j, (cellsOf (a :: r))[(k + 1) * 4 + j]? = (cellsOf r)[k * 4 + j]? := fun j => by
        rw [show (k + 1) * 4 + j = (k * 4 + j) + 4 by omega]; simp [cellsOf, Pr.cells]
      exact ⟨(e 0).trans this.1, (e 1).trans this.2.1, (e 2).trans this.2.2.1, (e 3).trans this.2.2.2⟩
theorem own_isRec {w : World} {base : Nat} {v : Value} {M : List Pr} (h : w.ownsRow base 26 4 v M.length (cellsOf M)) : IsRec w v M := by
  have hc : ∀ g, v.ownBlock = some g → ∀ j u, (cellsOf M)[j]? = some u → w.cell? ((⟨g, 0, none⟩ : Addr).add j) = some u := fun g hg => h.cells hg
  rcases h.2 with ⟨rfl, h0⟩ | ⟨g, cap, cur, rfl, hb, hg, hle, hcm, hcs, ht⟩
  · exact .inl ⟨rfl, List.eq_nil_of_length_eq_zero h0⟩
  · refine .inr ⟨g, 0, cap, rfl, hle, (Array.getElem?_eq_some_iff.1 hg).1, fun k p hp => ?_⟩
    obtain ⟨c0, c1, c2, c3⟩ := cellsOf_at hp
    have hc' := hc g rfl
    have d0 := hc' _ _ c0
    have d1 := hc' _ _ c1
    have d2 := hc' _ _ c2
    have d3 := hc' _ _ c3
    rw [Addr.add_lit] at d0 d1 d2 d3
    exact ⟨d0, by rw [Nat.add_assoc]; exact d1, by rw [Nat.add_assoc]; exact d2, by rw [Nat.add_assoc]; exact d3⟩

/-- The fault of a record with a property. -/
def rsErr (p : Pr) (L : List Pr) : Int := if rErr L = 0 then (if rErr [p] = 0 then (if 8 < (ins p L).length then 4 else 0) else rErr [p]) else rErr L

/-- What Join and Set give. -/
def SetPost (p : Pr) (L : List Pr) (w : World) (e : Ending) (w' : World) : Prop :=
  ∃ v, e = .returned (.tuple #[v, errV (rsErr p L)]) ∧ (rsErr p L = 0 → w'.ownsRow w.heap.size 26 4 v (ins p L).length (cellsOf (ins p L))) ∧ (¬ rsErr p L = 0 → v = .slice none 0 0) ∧ Below w.heap.size w w'

set_option maxHeartbeats 4000000 in
set_option maxRecDepth 100000 in
theorem join_any {v : Value} {L : List Pr} {w : World} (h : IsRec w v L) (hs : Sz L) (hm : L.length ≤ maxLen) (b2 o2 : Nat) (p : Pr) (hb2 : b2 < w.heap.size) (hp : Lies w b2 o2 [p]) (hsp : Sz [p]) :
    Calls Try.prog 34 #[v, .slice (some ⟨b2, o2, none⟩) 1 1] w (SetPost p L w) := by
  have c1 := rcheck_any h hs hm
  have h2 : IsRec w (.slice (some ⟨b2, o2, none⟩) 1 1) [p] := .inr ⟨b2, o2, 1, rfl, Nat.le_refl _, hb2, hp⟩
  by_cases e1 : rErr L = 0
  · rw [e1, errV_0] at c1
    by_cases e2 : rErr [p] = 0
    · have hn := rErr_len e1
      by_cases e3 : 8 < (ins p L).length
      · have es : rsErr p L = 4 := by unfold rsErr; rw [if_pos e1, if_pos e2, if_pos e3]
        have HE : Hid (rsErr p L = 4) := es
        have H2 : Hid (IsRec w v L ∧ L.length ≤ 8 ∧ Lies w b2 o2 [p] ∧ IsRec w (.slice (some ⟨b2, o2, none⟩) 1 1) [p] ∧ Sz [p] ∧ rErr [p] = 0) := ⟨h, hn, hp, h2, hsp, e2⟩
        have hM9 : (ins p L).length ≤ 9 := by have := ins_len p L; omega
        have hcast : (8 : Int) < ((ins p L).length : Int) := by omega
        clear es e1 h2 h hp hs hm hsp e2 hn
        go_enter Try.func34, Try.ntmps34
        go_wp2_with (go_at_call 22; refine c1.mono ?_; rintro e W1 ⟨rfl, hB1⟩; refine Hid.out ?_)
        refine Lib.hid ?_
        have c2 := rcheck_any (H2.out.2.2.2.1.on hB1) H2.out.2.2.2.2.1 (by simp [maxLen])
        rw [H2.out.2.2.2.2.2, errV_0] at c2
        go_wp2_with (go_at_call 22; refine c2.mono ?_; rintro e W2 ⟨rfl, hB2⟩; refine Hid.out ?_)
        refine Lib.hid ?_
        have hB := on1R hB1 hB2
        have c3 := merged_any (H2.out.1.on hB) H2.out.2.1 b2 o2 p (Nat.lt_of_lt_of_le hb2 hB.size) (H2.out.2.2.1.on hb2 hB)
        clear c1 c2
        go_wp2_with (go_at_call 44; refine c3.mono ?_; rintro e W3 ⟨v3, rfl, hO, hB3⟩; obtain ⟨ao, cp, rfl⟩ := own_slice hO)
        go_ret2
        exact ⟨.slice none 0 0, ret_v (by rw [HE.out]; rfl), fun h => absurd h (by rw [HE.out]; decide), fun _ => rfl, on1R hB hB3⟩
      · have es : rsErr p L = 0 := by unfold rsErr; rw [if_pos e1, if_pos e2, if_neg e3]
        have HE : Hid (rsErr p L = 0) := es
        have H2 : Hid (IsRec w v L ∧ L.length ≤ 8 ∧ Lies w b2 o2 [p] ∧ IsRec w (.slice (some ⟨b2, o2, none⟩) 1 1) [p] ∧ Sz [p] ∧ rErr [p] = 0) := ⟨h, hn, hp, h2, hsp, e2⟩
        have hcast : ((ins p L).length : Int) ≤ 8 := by omega
        clear es e1 h2 h hp hs hm hsp e2 hn e3
        go_enter Try.func34, Try.ntmps34
        go_wp2_with (go_at_call 22; refine c1.mono ?_; rintro e W1 ⟨rfl, hB1⟩; refine Hid.out ?_)
        refine Lib.hid ?_
        have c2 := rcheck_any (H2.out.2.2.2.1.on hB1) H2.out.2.2.2.2.1 (by simp [maxLen])
        rw [H2.out.2.2.2.2.2, errV_0] at c2
        go_wp2_with (go_at_call 22; refine c2.mono ?_; rintro e W2 ⟨rfl, hB2⟩; refine Hid.out ?_)
        refine Lib.hid ?_
        have hB := on1R hB1 hB2
        have c3 := merged_any (H2.out.1.on hB) H2.out.2.1 b2 o2 p (Nat.lt_of_lt_of_le hb2 hB.size) (H2.out.2.2.1.on hb2 hB)
        clear c1 c2
        go_wp2_with (go_at_call 44; refine c3.mono ?_; rintro e W3 ⟨v3, rfl, hO, hB3⟩; obtain ⟨ao, cp, rfl⟩ := own_slice hO)
        go_ret2
        exact ⟨_, ret_v (by rw [HE.out]; rfl), fun _ => own_base hO hB.size, fun h => absurd HE.out h, on1R hB hB3⟩
    · have es : rsErr p L = rErr [p] := by unfold rsErr; rw [if_pos e1, if_neg e2]
      have HE : Hid (rsErr p L = rErr [p] ∧ ¬ rErr [p] = 0) := ⟨es, e2⟩
      have H2 : Hid (IsRec w (.slice (some ⟨b2, o2, none⟩) 1 1) [p] ∧ Sz [p]) := ⟨h2, hsp⟩
      clear es e1 h2 h hp hs hm hsp e2
      go_enter Try.func34, Try.ntmps34
      go_wp2_with (go_at_call 22; refine c1.mono ?_; rintro e W1 ⟨rfl, hB1⟩; refine Hid.out ?_)
      refine Lib.hid ?_
      have c2 := rcheck_any (H2.out.1.on hB1) H2.out.2 (by simp [maxLen])
      rw [errV_ne HE.out.2] at c2
      clear c1
      go_wp2_with (go_at_call 22; refine c2.mono ?_; rintro e W2 ⟨rfl, hB2⟩)
      go_ret2
      exact ⟨.slice none 0 0, ret_v (by rw [HE.out.1, errV_ne HE.out.2]; rfl), fun h => absurd h (by rw [HE.out.1]; exact HE.out.2), fun _ => rfl, on1R hB1 hB2⟩
  · have es : rsErr p L = rErr L := by unfold rsErr; rw [if_neg e1]
    have HE : Hid (rsErr p L = rErr L ∧ ¬ rErr L = 0) := ⟨es, e1⟩
    rw [errV_ne e1] at c1
    have H : Hid (∀ w, IsRec w v L → True) := fun _ _ => trivial
    clear es e1 h2 h hp hs hm
    go_enter Try.func34, Try.ntmps34
    go_wp2_with (first | (go_at_call 22; refine c1.mono ?_; rintro e W1 ⟨rfl, hB1⟩))
    go_ret2
    exact ⟨.slice none 0 0, ret_v (by rw [HE.out.1, errV_ne HE.out.2]; rfl), fun h => absurd h (by rw [HE.out.1]; exact HE.out.2), fun _ => rfl, hB1⟩



theorem lies_new (w0 : World) (p : Pr) : Lies (w0.alloc (.cells #[.string p.nm, .int .i64 p.t, .int .i64 p.n, .string p.s] 26)) w0.heap.size 0 [p] := by
  intro k q hq
  match k, hq with
  | 0, hq => simp at hq; subst hq; simp
  | k + 1, hq => simp at hq
end Go.Proofs.Ytodddcacngjadaa
