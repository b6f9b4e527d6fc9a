/-
  The mathematics of the law.
-/
import Derived.Test.YtodddcacngjadaaGpC
namespace Go.Proofs.Ytodddcacngjadaa
open Go.RowKit
set_option linter.unusedVariables false
set_option linter.unusedSimpArgs false

/-- The value of a name. -/
def vOf (nm : List UInt8) (rc : List Pr) : Option V3 := (prOf nm rc).map fun q => ⟨q.t, q.n, q.s⟩
theorem have_k3 (nm : List UInt8) (L : List Rv) : (haveL nm L).map k3 = (L.map Rv.rc).filterMap (vOf nm) := by
  unfold haveL
  rw [List.map_filterMap, List.filterMap_map]
  congr 1
  funext x
  show (hvOf nm x).map k3 = vOf nm x.rc
  unfold hvOf vOf
  rw [Option.map_map]; rfl
theorem have_vOf {nm : List UInt8} {L : List Rv} {h : Hv} (hm : h ∈ haveL nm L) : vOf nm h.r.rc = some (k3 h) := by
  unfold haveL at hm
  obtain ⟨y, hy, he⟩ := List.mem_filterMap.1 hm
  unfold hvOf at he
  obtain ⟨q, hq, rfl⟩ := Option.map_eq_some_iff.1 he
  unfold vOf
  rw [hq]; rfl
theorem lack_vOf {nm : List UInt8} {L : List Rv} {x : Rv} (hm : x ∈ lackL nm L) : vOf nm x.rc = none := by
  have := (List.mem_filter.1 hm).2
  unfold vOf
  cases h : prOf nm x.rc with
  | none => rfl
  | some q => rw [h] at this; cases this
theorem fm_some {α β : Type} {f : α → Option β} {g : α → β} : ∀ {l : List α}, (∀ x ∈ l, f x = some (g x)) → l.filterMap f = l.map g
  | [], _ => rfl
  | x :: r, h => by rw [List.filterMap_cons_some (h x (by simp)), List.map_cons, fm_some (fun y hy => h y (List.mem_cons_of_mem _ hy))]
theorem fm_none {α β : Type} {f : α → Option β} : ∀ {l : List α}, (∀ x ∈ l, f x = none) → l.filterMap f = []
  | [], _ => rfl
  | x :: r, h => by rw [List.filterMap_cons_none (h x (by simp)), fm_none (fun y hy => h y (List.mem_cons_of_mem _ hy))]
theorem have_lack_len (nm : List UInt8) : ∀ L : List Rv, (haveL nm L).length + (lackL nm L).length = L.length
  | [] => rfl
  | x :: r => by
    have ih := have_lack_len nm r
    unfold haveL lackL at *
    cases h : prOf nm x.rc with
    | none =>
      rw [List.filterMap_cons_none (by unfold hvOf; rw [h]; rfl), List.filter_cons_of_pos (by rw [h]; rfl)]
      simp only [List.length_cons]; omega
    | some q =>
      rw [List.filterMap_cons_some (b := ⟨x, q.t, q.n, q.s⟩) (by unfold hvOf; rw [h]; rfl), List.filter_cons_of_neg (by rw [h]; simp)]
      simp only [List.length_cons]; omega
theorem rsE_of : ∀ {L : List Rv}, (∀ x ∈ L, rErr x.rc = 0) → rsE L = 0
  | [], _ => rfl
  | x :: r, h => by
    rw [rsE, if_pos (h x (by simp))]
    exact rsE_of (fun y hy => h y (List.mem_cons_of_mem _ hy))
def sumK : Int → List V3 → Int × Int
  | a, [] => (a, 0)
  | a, x :: r => if x.t = 1 then sumK (a + x.n) r else (0, 8)
theorem sumG_k : ∀ (a : Int) (H : List Hv), sumG a H = sumK a (H.map k3)
  | a, [] => rfl
  | a, x :: r => by
    rw [sumG, List.map_cons, sumK, sumG_k]; rfl
theorem sumK_perm {l l' : List V3} (h : l.Perm l') : ∀ a, sumK a l = sumK a l' := by
  induction h with
  | nil => intro a; rfl
  | cons x _ ih => intro a; rw [sumK, sumK, ih]
  | swap x y r =>
    intro a
    rw [sumK, sumK, sumK, sumK]
    by_cases h1 : x.t = 1
    · by_cases h2 : y.t = 1
      · rw [if_pos h1, if_pos h2, if_pos h1, if_pos h2, Int.add_right_comm]
      · simp [h1, h2]
    · by_cases h2 : y.t = 1
      · simp [h1, h2]
      · simp [h1, h2]
  | trans _ _ ih1 ih2 => intro a; rw [ih1, ih2]
/-- What a sorted list of records is like. -/
structure Srtd (nm : List UInt8) (down : Bool) (L : List Rv) (H : List HvS) (S : List Rv) : Prop where
  len : S.length = L.length
  hl : H.length ≤ S.length
  sz : SzRs S
  ask : ∀ x ∈ S, rErr x.rc = 0
  at1 : ∀ (k : Nat) x h, S[k]? = some x → H[k]? = some h → vOf nm x.rc = some (k3 h.1)
  at2 : ∀ (k : Nat) x, S[k]? = some x → H.length ≤ k → vOf nm x.rc = none
  vals : (haveL nm S).map k3 = H.map (fun h => k3 h.1)
  perm : (H.map (fun h => k3 h.1)).Perm ((haveL nm L).map k3)
  pw : H.Pairwise (fun x y => ¬ cfH down y x < 0)
theorem srtd_of {nm : List UInt8} {down : Bool} {L : List Rv} {H : List HvS} {S : List Rv} (hr : rsE L = 0) (hp : (H.map Subtype.val).Perm (haveL nm L)) (hpw : H.Pairwise (fun x y => ¬ cfH down y x < 0)) (hS : S.map Rv.rc = H.map (fun h => h.1.r.rc) ++ (lackL nm L).map Rv.rc) : Srtd nm down L H S := by
  have hln : S.length = H.length + (lackL nm L).length := by have := congrArg List.length hS; simpa using this
  have hHl : H.length = (haveL nm L).length := by have := hp.length_eq; simpa using this
  have hv : ∀ h ∈ H, vOf nm h.1.r.rc = some (k3 h.1) := fun h hh => have_vOf (hp.subset (List.mem_map_of_mem hh))
  have hrr : ∀ x ∈ S, rErr x.rc = 0 := fun x hx => by
    have : x.rc ∈ S.map Rv.rc := List.mem_map_of_mem hx
    rw [hS] at this
    rcases List.mem_append.1 this with h | h
    · obtain ⟨y, hy, e⟩ := List.mem_map.1 h
      rw [← e]; exact rsE_all hr _ (have_mem (hp.subset (List.mem_map_of_mem hy)))
    · obtain ⟨y, hy, e⟩ := List.mem_map.1 h
      rw [← e]; exact rsE_all hr _ (List.mem_filter.1 hy).1
  refine ⟨by rw [hln, hHl]; exact have_lack_len nm L, by omega, fun x hx => ⟨sz_of (hrr x hx), Nat.le_trans (rErr_len (hrr x hx)) (by unfold maxLen; omega)⟩, hrr, fun k x h hx hh => ?_, fun k x hx hk => ?_, ?_, ?_, hpw⟩
  · have e1 : (S.map Rv.rc)[k]? = some x.rc := by rw [List.getElem?_map, hx]; rfl
    rw [hS, List.getElem?_append_left (by have := (List.getElem?_eq_some_iff.1 hh).1; simpa using this), List.getElem?_map, hh] at e1
    rw [← Option.some.inj e1]
    exact hv h (List.mem_of_getElem? hh)
  · have e1 : (S.map Rv.rc)[k]? = some x.rc := by rw [List.getElem?_map, hx]; rfl
    rw [hS, List.getElem?_append_right (by simpa using hk)] at e1
    obtain ⟨y, hy, e⟩ := List.mem_map.1 (List.mem_of_getElem? e1)
    rw [← e]; exact lack_vOf hy
  · rw [have_k3, hS, List.filterMap_append, List.filterMap_map, List.filterMap_map, fm_some (g := fun h => k3 h.1) hv, fm_none (f := vOf nm ∘ Rv.rc) (fun x hx => lack_vOf hx), List.append_nil]
  · have := hp.map k3
    rwa [List.map_map] at this
theorem Srtd.askOk {nm : List UInt8} {down : Bool} {L : List Rv} {H : List HvS} {S : List Rv} (h : Srtd nm down L H S) (hl : L.length ≤ 200) (hn : nErr nm = 0) : askRE S nm = 0 := by
  unfold askRE
  rw [if_neg (by rw [h.len]; omega), if_pos (rsE_of h.ask)]; exact hn
theorem Srtd.sums {nm : List UInt8} {down : Bool} {L : List Rv} {H : List HvS} {S : List Rv} (h : Srtd nm down L H S) : sumG 0 (haveL nm S) = sumG 0 (haveL nm L) := by
  rw [sumG_k, sumG_k, h.vals]
  exact sumK_perm h.perm 0
/-- What Get gives. -/
theorem get_v {rc : List Pr} {nm : List UInt8} {x : V3} (hr : rErr rc = 0) (h : vOf nm rc = some x) : rfErr nm rc = 0 ∧ getV nm rc = .agg #[.int .i64 x.t, .int .i64 x.n, .string x.s] := by
  unfold vOf at h
  obtain ⟨q, hq, rfl⟩ := Option.map_eq_some_iff.1 h
  rcases get_ok nm hr with ⟨h0, _⟩ | ⟨q', h1, h2, h3⟩
  · rw [hq] at h0; cases h0
  · rw [hq] at h1; cases h1; exact ⟨h2, h3⟩
theorem get_n {rc : List Pr} {nm : List UInt8} (hr : rErr rc = 0) (h : vOf nm rc = none) : rfErr nm rc = 5 ∧ getV nm rc = .agg #[.int .i64 0, .int .i64 0, .string ⟨#[]⟩] := by
  unfold vOf at h
  rcases get_ok nm hr with ⟨_, h2, h3⟩ | ⟨q', h1, _⟩
  · exact ⟨h2, h3⟩
  · rw [h1] at h; cases h
/-- Two that follow one another are in order, where they can be compared. -/
theorem in_order {down : Bool} {H : List HvS} (hpw : H.Pairwise (fun x y => ¬ cfH down y x < 0)) {k : Nat} {x y : HvS} (hx : H[k]? = some x) (hy : H[k + 1]? = some y) (he : cErr x.1.t x.1.n x.1.s.data.toList y.1.t y.1.n y.1.s.data.toList = 0) :
    (down = false → ¬ 0 < cVal x.1.t x.1.n x.1.s.data.toList y.1.t y.1.n y.1.s.data.toList) ∧ (down = true → ¬ cVal x.1.t x.1.n x.1.s.data.toList y.1.t y.1.n y.1.s.data.toList < 0) := by
  obtain ⟨hk1, e1⟩ := List.getElem?_eq_some_iff.1 hx
  obtain ⟨hk2, e2⟩ := List.getElem?_eq_some_iff.1 hy
  have hp := (List.pairwise_iff_getElem.1 hpw) k (k + 1) hk1 hk2 (by omega)
  rw [e1, e2] at hp
  have ht : x.1.t = y.1.t := by
    unfold cErr at he
    rw [if_pos x.2.1, if_pos y.2.1] at he
    by_cases h : x.1.t = y.1.t
    · exact h
    · rw [if_neg h] at he; exact absurd he (by decide)
  have hc : cVal x.1.t x.1.n x.1.s.data.toList y.1.t y.1.n y.1.s.data.toList = kcH x y := by
    unfold cVal kcH kcV
    rw [if_pos he, if_pos ht]
  rw [hc]
  have ha : kcH y x = -kcH x y := kcV_anti _ _ _ _ _ _
  unfold cfH at hp
  cases down with
  | true => rw [if_pos rfl] at hp; exact ⟨fun h => (by cases h), fun _ => hp⟩
  | false => rw [if_neg (by decide), ha] at hp; exact ⟨fun _ => by omega, fun h => (by cases h)⟩
end Go.Proofs.Ytodddcacngjadaa
