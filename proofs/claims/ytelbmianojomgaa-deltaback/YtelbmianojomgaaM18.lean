/-
  The walks of hasNode, hasTie, of the closures of between and of what they hand on.
-/
import Derived.Test.YtelbmianojomgaaM17
namespace Go.Proofs.Ytelbmianojomgaa
open Go.RowKit
set_option linter.unusedVariables false
set_option linter.unusedSimpArgs false

theorem upd_cases {κ β : Type} [DecidableEq κ] {F : κ → Option β} {x y : κ} {v u : β} (h : upd F x v y = some u) : (y = x ∧ u = v) ∨ F y = some u := by
  unfold upd at h
  split at h
  · rename_i e
    exact .inl ⟨e, (Option.some.inj h).symm⟩
  · exact .inr h
theorem nG_mem_aux (L : List Nd) : ∀ (F : Int → Option Nd) (id : Int) (m : Nd), L.foldl (fun F n => upd F n.id n) F id = some m → (m ∈ L ∧ m.id = id) ∨ F id = some m := by
  induction L with
  | nil => intro F id m h; exact .inr h
  | cons a r ih =>
    intro F id m h
    rcases ih _ id m h with ⟨h1, h2⟩ | h1
    · exact .inl ⟨List.mem_cons_of_mem _ h1, h2⟩
    · rcases upd_cases h1 with ⟨rfl, rfl⟩ | h2
      · exact .inl ⟨List.mem_cons_self .., rfl⟩
      · exact .inr h2
theorem nG_mem {L : List Nd} {id : Int} {m : Nd} (h : nG L id = some m) : m ∈ L ∧ m.id = id := by
  rcases nG_mem_aux L _ id m h with h | h
  · exact h
  · cases h
theorem tG_mem_aux (L : List Te) : ∀ (F : Te → Option Value) (t : Te) (v : Value), L.foldl (fun F n => upd F n (.int .i64 1)) F t = some v → (t ∈ L ∧ v = .int .i64 1) ∨ F t = some v := by
  induction L with
  | nil => intro F id m h; exact .inr h
  | cons a r ih =>
    intro F id m h
    rcases ih _ id m h with ⟨h1, h2⟩ | h1
    · exact .inl ⟨List.mem_cons_of_mem _ h1, h2⟩
    · rcases upd_cases h1 with ⟨rfl, rfl⟩ | h2
      · exact .inl ⟨List.mem_cons_self .., rfl⟩
      · exact .inr h2
theorem tG_mem {L : List Te} {t : Te} {v : Value} (h : tG L t = some v) : t ∈ L ∧ v = .int .i64 1 := by
  rcases tG_mem_aux L _ t v h with h | h
  · exact h
  · cases h
/-- Is there one of its id and its kind? -/
def hasN (N : List Nd) (n : Nd) : Bool := match nG N n.id with
  | some m => m.kd.toList == n.kd.toList
  | none => false
/-- Is the tie there? -/
def hasT (T : List Te) (t : Te) : Bool := (tG T t).isSome
theorem hasN_some {N : List Nd} {n m : Nd} (h : nG N n.id = some m) : hasN N n = (m.kd.toList == n.kd.toList) := by unfold hasN; rw [h]
theorem hasN_none {N : List Nd} {n : Nd} (h : nG N n.id = none) : hasN N n = false := by unfold hasN; rw [h]

set_option maxHeartbeats 2000000 in
set_option maxRecDepth 100000 in
theorem hasNode_any {N : List Nd} {T : List Te} {n : Nd} {st : Value} {w : World} (hS : IsSt w st N T) (hl : SlN N) (hr : ∃ a l c, n.rv = .slice a l c) (hi : idOk n.id = true) :
    Calls Try.prog 51 #[st, n.one] w fun e w' => e = .returned (.bool (hasN N n)) ∧ Below w.heap.size w w' := by
  obtain ⟨b1, b2, rfl, h1, h2⟩ := hS
  obtain ⟨av, lv, cv, hv⟩ := hr
  have hN1 := @hasN_some N n
  have hN0 := @hasN_none N n
  obtain ⟨id, kd, rv, rc⟩ := n
  simp only at hv hi hN1 hN0
  subst hv
  obtain ⟨W, hW⟩ : ∃ W, W = (w.alloc (.cells #[.map (some b1), .map (some b2)] 128)).alloc (.cells #[.int .i64 id, .string kd, .slice av lv cv] 29) := ⟨_, rfl⟩
  have hB : Below w.heap.size w W := by rw [hW]; exact b_alloc (b_alloc (Below.refl _ _) _) _
  have lk := mapN_look (h1.on hB) hi true
  have m1 : W.heap[w.heap.size + 1]? = some (.cells #[.int .i64 id, .string kd, .slice av lv cv] 29 (0, 0)) := by
    have := heap_alloc_new (w.alloc (.cells #[.map (some b1), .map (some b2)] 128)) (.cells #[.int .i64 id, .string kd, .slice av lv cv] 29)
    simp only [World.size_alloc] at this
    rw [hW]; exact this
  have hsz : W.heap.size = w.heap.size + 2 := by rw [hW]; simp
  have x1 : ∀ o, (W.alloc o).cell? ⟨w.heap.size + 1, 1, none⟩ = some (.string kd) := fun o => ((b_alloc (Below.refl _ W) o).cell (by show w.heap.size + 1 < _; omega)).trans (cell_at m1 rfl)
  have m0 : W.heap[w.heap.size]? = some (.cells #[.map (some b1), .map (some b2)] 128 (0, 0)) := by
    rw [hW]; exact (heap_alloc_old _ _ (by simp)).trans (heap_alloc_new w _)
  have y0 : W.cell? ⟨w.heap.size, 0, none⟩ = some (.map (some b1)) := cell_at m0 rfl
  have y1 : W.cell? ⟨w.heap.size + 1, 0, none⟩ = some (.int .i64 id) := cell_at m1 rfl
  have HB : Hid (Below w.heap.size w W) := hB
  clear h1 h2 hB m0 m1
  cases hm : nG N id with
  | none =>
    rw [hN0 hm]
    rw [hm] at lk
    simp only [Option.map_none, Option.getD_none, Option.isSome_none, if_true] at lk
    clear hm hN0 hN1
    go_enter Try.func51, Try.ntmps51
    go_upto_region 1 with fail
    rw [← hW]
    clear hW
    go_wp2
    go_ret
    exact ⟨rfl, b_alloc HB.out _⟩
  | some m =>
    obtain ⟨hmN, hmi⟩ := nG_mem hm
    obtain ⟨a2, l2, c2, hv2⟩ := hl m hmN
    rw [hN1 hm]
    rw [hm] at lk
    simp only [Option.map_some, Option.getD_some, Option.isSome_some, if_true, Nd.one] at lk
    clear hm hN0 hN1 hmN hmi
    obtain ⟨id2, kd2, rv2, rc2⟩ := m
    simp only at hv2 lk ⊢
    subst hv2
    go_enter Try.func51, Try.ntmps51
    go_upto_region 1 with fail
    rw [← hW]
    clear hW
    go_wp2
    go_ret
    exact ⟨rfl, b_alloc HB.out _⟩

set_option maxHeartbeats 2000000 in
set_option maxRecDepth 100000 in
theorem hasTie_any {N : List Nd} {T : List Te} {t : Te} {st : Value} {w : World} (hS : IsSt w st N T) (hk : t.key) :
    Calls Try.prog 53 #[st, t.one] w fun e w' => e = .returned (.bool (hasT T t)) ∧ Below w.heap.size w w' := by
  obtain ⟨b1, b2, rfl, h1, h2⟩ := hS
  have hT : hasT T t = (tG T t).isSome := rfl
  obtain ⟨W, hW⟩ : ∃ W, W = (w.alloc (.cells #[.map (some b1), .map (some b2)] 128)).alloc (.cells #[.string t.bd, .int .i64 t.fr, .int .i64 t.tt] 31) := ⟨_, rfl⟩
  have hB : Below w.heap.size w W := by rw [hW]; exact b_alloc (b_alloc (Below.refl _ _) _) _
  have lk := mapT_look (h2.on hB) hk
  have hval := @tG_mem T t
  obtain ⟨bd, fr, tt⟩ := t
  simp only at hW lk hval hT
  have m1 : W.heap[w.heap.size + 1]? = some (.cells #[.string bd, .int .i64 fr, .int .i64 tt] 31 (0, 0)) := by
    have := heap_alloc_new (w.alloc (.cells #[.map (some b1), .map (some b2)] 128)) (.cells #[.string bd, .int .i64 fr, .int .i64 tt] 31)
    simp only [World.size_alloc] at this
    rw [hW]; exact this
  have m0 : W.heap[w.heap.size]? = some (.cells #[.map (some b1), .map (some b2)] 128 (0, 0)) := by
    rw [hW]; exact (heap_alloc_old _ _ (by simp)).trans (heap_alloc_new w _)
  have y0 : W.cell? ⟨w.heap.size, 1, none⟩ = some (.map (some b2)) := cell_at m0 rfl
  have x0 : W.cell? ⟨w.heap.size + 1, 0, none⟩ = some (.string bd) := cell_at m1 rfl
  have x1 : W.cell? ⟨w.heap.size + 1, 1, none⟩ = some (.int .i64 fr) := cell_at m1 rfl
  have x2 : W.cell? ⟨w.heap.size + 1, 2, none⟩ = some (.int .i64 tt) := cell_at m1 rfl
  have HB : Hid (Below w.heap.size w W) := hB
  rw [hT]
  clear h1 h2 hB m0 m1 hT hk
  cases hm : tG T ⟨bd, fr, tt⟩ with
  | none =>
    rw [hm] at lk
    simp only [Option.getD_none] at lk
    clear hm hval
    go_enter Try.func53, Try.ntmps53
    go_upto_region 1 with fail
    rw [← hW]
    clear hW
    go_wp2
    go_ret
    exact ⟨rfl, HB.out⟩
  | some v =>
    obtain ⟨_, rfl⟩ := hval hm
    rw [hm] at lk
    simp only [Option.getD_some] at lk
    clear hm hval
    go_enter Try.func53, Try.ntmps53
    go_upto_region 1 with fail
    rw [← hW]
    clear hW
    go_wp2
    go_ret
    exact ⟨rfl, HB.out⟩
end Go.Proofs.Ytelbmianojomgaa

/-
  The walks of the closures goes and stays of between.
-/
namespace Go.Proofs.Ytelbmianojomgaa
open Go.RowKit
set_option linter.unusedVariables false
set_option linter.unusedSimpArgs false

/-- Does the node of an id go? -/
def goesN (N M : List Nd) (id : Int) : Bool := match nG N id with
  | some n => !hasN M n
  | none => false
theorem goes_some {N M : List Nd} {id : Int} {n : Nd} (h : nG N id = some n) : goesN N M id = !hasN M n := by unfold goesN; rw [h]
theorem goes_none {N M : List Nd} {id : Int} (h : nG N id = none) : goesN N M id = false := by unfold goesN; rw [h]
/-- Does a tie stay? -/
def stayT (N M : List Nd) (T : List Te) (t : Te) : Bool := hasT T t && !goesN N M t.fr && !goesN N M t.tt
/-- A stock behind a pointer. -/
def StAt (w : World) (p : Nat) (N : List Nd) (T : List Te) : Prop := ∃ b1 b2, w.heap[p]? = some (.cells #[.map (some b1), .map (some b2)] 128 (0, 0)) ∧ IsSt w (.agg #[.map (some b1), .map (some b2)]) N T
theorem StAt.on {w w' : World} {p : Nat} {N : List Nd} {T : List Te} (h : StAt w p N T) (hB : Below w.heap.size w w') : StAt w' p N T := by
  obtain ⟨b1, b2, h1, h2⟩ := h
  exact ⟨b1, b2, (hB.block p (Array.getElem?_eq_some_iff.1 h1).1).trans h1, h2.on hB⟩
theorem StAt.lt {w : World} {p : Nat} {N : List Nd} {T : List Te} (h : StAt w p N T) : p < w.heap.size := by
  obtain ⟨b1, b2, h1, h2⟩ := h
  exact (Array.getElem?_eq_some_iff.1 h1).1

set_option maxHeartbeats 2000000 in
set_option maxRecDepth 100000 in
theorem goes_any {N M : List Nd} {T U : List Te} {id : Int} {p q : Nat} {w : World} (h1 : StAt w p N T) (h2 : StAt w q M U) (hN : SlN N) (hM : SlN M) (kN : ∀ n ∈ N, idOk n.id = true) (hi : idOk id = true) :
    Calls Try.prog 50 #[.int .i64 id, .pointer (some ⟨p, 0, none⟩), .pointer (some ⟨q, 0, none⟩)] w fun e w' => e = .returned (.bool (goesN N M id)) ∧ Below w.heap.size w w' := by
  have H2 := Lib.hid h2
  obtain ⟨a1, a2, hp, c1, c2, ec, hc1, hc2⟩ := h1
  injection ec with ec
  injection ec with ec
  simp only [List.cons.injEq, and_true, Value.map.injEq, Option.some.injEq] at ec
  obtain ⟨rfl, rfl⟩ := ec
  have x0 : w.cell? ⟨p, 0, none⟩ = some (.map (some a1)) := cell_at hp rfl
  have lk := mapN_look hc1 hi true
  have hG1 := @goes_some N M id
  have hG0 := @goes_none N M id
  clear hc1 hc2 hp
  cases hm : nG N id with
  | none =>
    rw [hG0 hm]
    rw [hm] at lk
    simp only [Option.map_none, Option.getD_none, Option.isSome_none, if_true] at lk
    clear hm hG0 hG1
    go_enter Try.func50, Try.ntmps50
    go_wp2
    go_ret
    exact ⟨rfl, b_alloc (Below.refl _ _) _⟩
  | some n =>
    obtain ⟨hmN, hmi⟩ := nG_mem hm
    have hki := kN n hmN
    obtain ⟨a2, l2, c2, hv2⟩ := hN n hmN
    rw [hG1 hm]
    rw [hm] at lk
    simp only [Option.map_some, Option.getD_some, Option.isSome_some, if_true, Nd.one] at lk
    have hB : Below w.heap.size w (w.alloc (.cells #[.int .i64 n.id, .string n.kd, n.rv] 29)) := b_alloc (Below.refl _ _) _
    have hS := H2.out.on hB
    obtain ⟨b1, b2, hq, hst⟩ := hS
    have y0 : (w.alloc (.cells #[.int .i64 n.id, .string n.kd, n.rv] 29)).cell? ⟨q, 0, none⟩ = some (.map (some b1)) := cell_at hq rfl
    have y1 : (w.alloc (.cells #[.int .i64 n.id, .string n.kd, n.rv] 29)).cell? ⟨q, 1, none⟩ = some (.map (some b2)) := cell_at hq rfl
    have c51 := hasNode_any hst hM ⟨_, _, _, hv2⟩ hki
    have HB := Lib.hid hB
    clear hm hG0 hG1 hmN hmi hki hq hst hB
    generalize hasN M n = h at *
    obtain ⟨id2, kd2, rv2, rc2⟩ := n
    simp only at hv2 lk y0 y1 c51 HB
    subst hv2
    go_enter Try.func50, Try.ntmps50
    go_wp2_with (go_at_call 51; refine c51.mono ?_; rintro e W2 ⟨rfl, hB2⟩)
    go_ret
    exact ⟨rfl, on1K HB.out hB2 (Nat.le_refl _)⟩
end Go.Proofs.Ytelbmianojomgaa

/-
  The walk of the closure stays of between, and of those that make ops.
-/
namespace Go.Proofs.Ytelbmianojomgaa
open Go.RowKit
set_option linter.unusedVariables false
set_option linter.unusedSimpArgs false

set_option maxHeartbeats 2000000 in
set_option maxRecDepth 100000 in
theorem stays_any {N M : List Nd} {T U : List Te} {t : Te} {p q r : Nat} {w : World} (h1 : StAt w p N T) (h2 : StAt w q M U) (hr : w.heap[r]? = some (.cells #[.func (.func 50) #[] #[.pointer (some ⟨p, 0, none⟩), .pointer (some ⟨q, 0, none⟩)]] 107 (0, 0))) (hN : SlN N) (hM : SlN M) (kN : ∀ n ∈ N, idOk n.id = true) (hk : t.key) (hi : idOk t.fr = true) (hj : idOk t.tt = true) :
    Calls Try.prog 52 #[t.one, .pointer (some ⟨p, 0, none⟩), .pointer (some ⟨r, 0, none⟩)] w fun e w' => e = .returned (.bool (stayT N M T t)) ∧ Below w.heap.size w w' := by
  have hs : stayT N M T t = (hasT T t && !goesN N M t.fr && !goesN N M t.tt) := rfl
  rw [hs]
  obtain ⟨W, hW⟩ : ∃ W, W = w.alloc (.cells #[.string t.bd, .int .i64 t.fr, .int .i64 t.tt] 31) := ⟨_, rfl⟩
  have hB : Below w.heap.size w W := by rw [hW]; exact b_alloc (Below.refl _ _) _
  have h1' := h1.on hB
  have H12 := Lib.hid (And.intro h1' (h2.on hB))
  have m0 : W.heap[w.heap.size]? = some (.cells #[.string t.bd, .int .i64 t.fr, .int .i64 t.tt] 31 (0, 0)) := by rw [hW]; exact heap_alloc_new w _
  have hrW := (hB.block r (Array.getElem?_eq_some_iff.1 hr).1).trans hr
  have C50 : Hid (∀ W', Below W.heap.size W W' → ∀ id, idOk id = true → Calls Try.prog 50 #[.int .i64 id, .pointer (some ⟨p, 0, none⟩), .pointer (some ⟨q, 0, none⟩)] W' fun e w' => e = .returned (.bool (goesN N M id)) ∧ Below W'.heap.size W' w') := fun W' hB' id hid => goes_any (H12.out.1.on hB') (H12.out.2.on hB') hN hM kN hid
  obtain ⟨b1, b2, hp, hst⟩ := h1'
  have c53 := hasTie_any (t := t) hst hk
  have x0 : W.cell? ⟨p, 0, none⟩ = some (.map (some b1)) := cell_at hp rfl
  have x1 : W.cell? ⟨p, 1, none⟩ = some (.map (some b2)) := cell_at hp rfl
  have HC : Hid (∀ W', Below W.heap.size W W' → W'.cell? ⟨r, 0, none⟩ = some (.func (.func 50) #[] #[.pointer (some ⟨p, 0, none⟩), .pointer (some ⟨q, 0, none⟩)]) ∧ W'.cell? ⟨w.heap.size, 1, none⟩ = some (.int .i64 t.fr) ∧ W'.cell? ⟨w.heap.size, 2, none⟩ = some (.int .i64 t.tt)) := fun W' hB' =>
    ⟨cell_at ((hB'.block r (Array.getElem?_eq_some_iff.1 hrW).1).trans hrW) rfl, cell_at ((hB'.block _ (Array.getElem?_eq_some_iff.1 m0).1).trans m0) rfl, cell_at ((hB'.block _ (Array.getElem?_eq_some_iff.1 m0).1).trans m0) rfl⟩
  have y0 : W.cell? ⟨w.heap.size, 0, none⟩ = some (.string t.bd) := cell_at m0 rfl
  have y1 : W.cell? ⟨w.heap.size, 1, none⟩ = some (.int .i64 t.fr) := cell_at m0 rfl
  have y2 : W.cell? ⟨w.heap.size, 2, none⟩ = some (.int .i64 t.tt) := cell_at m0 rfl
  have HI : Hid (idOk t.fr = true ∧ idOk t.tt = true) := ⟨hi, hj⟩
  have HB := Lib.hid hB
  clear h1 h2 hp hst hrW m0 hr hB hN hM kN hk hi hj hs H12
  generalize hasT T t = g1 at *
  obtain ⟨bd, fr, tt⟩ := t
  simp only at *
  cases g1 with
  | false =>
    simp only [Bool.false_and]
    go_enter Try.func52, Try.ntmps52
    go_upto_region 1 with fail
    rw [← hW]
    clear hW
    go_wp2_with (go_at_call 53; refine c53.mono ?_; rintro e W2 ⟨rfl, hB2⟩)
    go_ret
    exact ⟨rfl, on1K HB.out hB2 (Nat.le_refl _)⟩
  | true =>
    simp only [Bool.true_and]
    have C2 : Hid (∀ W2, Below W.heap.size W W2 → Calls Try.prog 50 #[.int .i64 fr, .pointer (some ⟨p, 0, none⟩), .pointer (some ⟨q, 0, none⟩)] W2 fun e w' => e = .returned (.bool (goesN N M fr)) ∧ Below W2.heap.size W2 w') := fun W2 hB2 => C50.out W2 hB2 fr HI.out.1
    generalize goesN N M fr = g2 at *
    cases g2 with
    | true =>
      simp only [Bool.not_true, Bool.false_and]
      go_enter Try.func52, Try.ntmps52
      go_upto_region 1 with fail
      rw [← hW]
      clear hW
      go_wp2_with (first | (go_at_call 53; refine c53.mono ?_; rintro e W2 ⟨rfl, hB2⟩; obtain ⟨z0, z1, z2⟩ := HC.out W2 hB2) | (go_at_call 50; refine (C2.out W2 hB2).mono ?_; rintro e W3 ⟨rfl, hB3⟩))
      go_ret
      exact ⟨rfl, on1K HB.out (on1K hB2 hB3 (Nat.le_refl _)) (Nat.le_refl _)⟩
    | false =>
      simp only [Bool.not_false, Bool.true_and]
      have C3 : Hid (∀ W2, Below W.heap.size W W2 → Calls Try.prog 50 #[.int .i64 tt, .pointer (some ⟨p, 0, none⟩), .pointer (some ⟨q, 0, none⟩)] W2 fun e w' => e = .returned (.bool (goesN N M tt)) ∧ Below W2.heap.size W2 w') := fun W2 hB2 => C50.out W2 hB2 tt HI.out.2
      generalize goesN N M tt = g3 at *
      go_enter Try.func52, Try.ntmps52
      go_upto_region 1 with fail
      rw [← hW]
      clear hW
      go_wp2_with (first | (go_at_call 53; refine c53.mono ?_; rintro e W2 ⟨rfl, hB2⟩; obtain ⟨z0, z1, z2⟩ := HC.out W2 hB2) | (go_at_call 50; first | (refine (C3.out W3 hB23).mono ?_; rintro e W4 ⟨rfl, hB4⟩) | (refine (C2.out W2 hB2).mono ?_; rintro e W3 ⟨rfl, hB3⟩; have hB23 := on1K hB2 hB3 (Nat.le_refl _); obtain ⟨z0', z1', z2'⟩ := HC.out W3 hB23)))
      go_ret
      exact ⟨rfl, on1K HB.out (on1K hB23 hB4 (Nat.le_refl _)) (Nat.le_refl _)⟩

/-- An op without its record's place. -/
def Opx.c (o : Opx) : Opx := ⟨o.wh, o.nd.c, o.pr, o.te⟩
/-- Nothing. -/
def nd0 : Nd := ⟨0, ⟨#[]⟩, .slice none 0 0, []⟩
def pr0 : Pr := ⟨⟨#[]⟩, 0, 0, ⟨#[]⟩⟩
def te0 : Te := ⟨⟨#[]⟩, 0, 0⟩
/-- The op that an op-maker gives. -/
def MkPost (w : World) (o : Opx) (e : Ending) (w' : World) : Prop := ∃ x : Opx, e = .returned x.one ∧ x.c = o.c ∧ OwnRc w' w.heap.size x.nd.rv x.nd.rc ∧ Below w.heap.size w w'
def looseO (t : Te) : Opx := ⟨6, nd0, pr0, t⟩
def bindO (t : Te) : Opx := ⟨5, nd0, pr0, t⟩
def goneO (n : Nd) : Opx := ⟨2, ⟨n.id, ⟨#[]⟩, .slice none 0 0, []⟩, pr0, te0⟩
def newO (n : Nd) : Opx := ⟨1, n, pr0, te0⟩

set_option maxHeartbeats 2000000 in
theorem mkLoose (t : Te) (w : World) : Calls Try.prog 56 #[t.one] w (MkPost w (looseO t)) := by
  obtain ⟨bd, fr, tt⟩ := t
  go_enter Try.func56, Try.ntmps56
  go_wp2
  refine bodyPost_ret (v := (looseO ⟨bd, fr, tt⟩).one) ?_ rfl ⟨looseO ⟨bd, fr, tt⟩, rfl, rfl, World.ownsRow_nil _ _ _ _, b_alloc (b_alloc (Below.refl _ _) _) _⟩
  simp [results, Try.results56, go_sem, looseO, nd0, pr0, te0, Opx.one]
set_option maxHeartbeats 2000000 in
theorem mkBind (t : Te) (w : World) : Calls Try.prog 62 #[t.one] w (MkPost w (bindO t)) := by
  obtain ⟨bd, fr, tt⟩ := t
  go_enter Try.func62, Try.ntmps62
  go_wp2
  refine bodyPost_ret (v := (bindO ⟨bd, fr, tt⟩).one) ?_ rfl ⟨bindO ⟨bd, fr, tt⟩, rfl, rfl, World.ownsRow_nil _ _ _ _, b_alloc (b_alloc (Below.refl _ _) _) _⟩
  simp [results, Try.results62, go_sem, bindO, nd0, pr0, te0, Opx.one]

set_option maxHeartbeats 2000000 in
theorem mkGone (n : Nd) (hr : ∃ a l c, n.rv = .slice a l c) (w : World) : Calls Try.prog 58 #[n.one] w (MkPost w (goneO n)) := by
  obtain ⟨av, lv, cv, hv⟩ := hr
  obtain ⟨id, kd, rv, rc⟩ := n
  simp only at hv
  subst hv
  go_enter Try.func58, Try.ntmps58
  go_wp2
  refine bodyPost_ret (v := (goneO ⟨id, kd, .slice av lv cv, rc⟩).one) ?_ rfl ⟨goneO ⟨id, kd, .slice av lv cv, rc⟩, rfl, rfl, World.ownsRow_nil _ _ _ _, b_alloc (b_alloc (Below.refl _ _) _) _⟩
  simp [results, Try.results58, go_sem, goneO, nd0, pr0, te0, Opx.one]
theorem cell_othN {w : World} {b i j : Nat} {u : Value} (h : i ≠ j) : (w.setCell ⟨b, i, none⟩ u).cell? ⟨b, j, none⟩ = w.cell? ⟨b, j, none⟩ := World.cell?_setCell_other _ _ _ _ (by intro e; exact h (by injection e))
/-- Cells of a block are written one by one. -/
def setN (w : World) (b : Nat) : Nat → List Value → World
  | _, [] => w
  | i, v :: r => setN (w.setCell ⟨b, i, none⟩ v) b (i + 1) r
theorem below_setN {B b : Nat} {a : World} (hb : B ≤ b) : ∀ (vs : List Value) (i : Nat) (w : World), Below B a w → Below B a (setN w b i vs)
  | [], _, _, h => h
  | v :: r, i, w, h => below_setN hb r (i + 1) _ (h.setCell hb v)
theorem setN_out {b : Nat} : ∀ (vs : List Value) (i : Nat) (w : World) (x : Nat), x < i → (setN w b i vs).cell? ⟨b, x, none⟩ = w.cell? ⟨b, x, none⟩
  | [], _, _, _, _ => rfl
  | v :: r, i, w, x, h => (setN_out r (i + 1) _ x (by omega)).trans (cell_othN (by omega))
theorem setN_in {b : Nat} : ∀ (vs : List Value) (i : Nat) (w : World), (∀ j, j < vs.length → (w.cell? ⟨b, i + j, none⟩).isSome = true) → ∀ j v, vs[j]? = some v → (setN w b i vs).cell? ⟨b, i + j, none⟩ = some v
  | [], _, _, _, j, v, h => by simp at h
  | a :: r, i, w, hs, 0, v, h => by
    have e : a = v := by simpa using h
    subst e
    refine (setN_out r (i + 1) _ (i + 0) (by omega)).trans ?_
    exact World.cell?_setCell_same' _ _ _ (hs 0 (by simp))
  | a :: r, i, w, hs, j + 1, v, h => by
    have := setN_in r (i + 1) (w.setCell ⟨b, i, none⟩ a) (fun k hk => by
      rw [cell_othN (by omega)]
      have := hs (k + 1) (by simpa using hk)
      rwa [show i + (k + 1) = i + 1 + k by omega] at this) j v (by simpa using h)
    rw [show i + (j + 1) = i + 1 + j by omega]
    exact this
theorem kt_setN {t t' : TypeId} {b : Nat} {a : World} (hne : t' ≠ t) : ∀ (vs : List Value) (i : Nat) (w : World), Ty w b t' → Kt t a w → Kt t a (setN w b i vs)
  | [], _, _, _, h => h
  | v :: r, i, w, hty, h => kt_setN hne r (i + 1) _ (hty.set b i v) (h.ty hty hne i v)
set_option maxHeartbeats 4000000 in
set_option maxRecDepth 100000 in
theorem mkNew {n : Nd} {w : World} (hR : IsR w n.rv n.rc) (hl : n.rc.length ≤ 1000) : Calls Try.prog 59 #[n.one] w (MkPost w (newO n)) := by
  obtain ⟨W, hW⟩ : ∃ W, W = (w.alloc (.cells #[.int .i64 n.id, .string n.kd, n.rv] 29)).alloc (.cells #[.int .i64 0, .int .i64 0, .string ⟨#[]⟩, .slice none 0 0, .string ⟨#[]⟩, .int .i64 0, .int .i64 0, .string ⟨#[]⟩, .string ⟨#[]⟩, .int .i64 0, .int .i64 0] 65) := ⟨_, rfl⟩
  have hB : Below w.heap.size w W := by rw [hW]; exact b_alloc (b_alloc (Below.refl _ _) _) _
  have m0 : W.heap[w.heap.size]? = some (.cells #[.int .i64 n.id, .string n.kd, n.rv] 29 (0, 0)) := by
    rw [hW]; exact (heap_alloc_old _ _ (by simp)).trans (heap_alloc_new w _)
  have m1 : W.heap[w.heap.size + 1]? = some (.cells #[.int .i64 0, .int .i64 0, .string ⟨#[]⟩, .slice none 0 0, .string ⟨#[]⟩, .int .i64 0, .int .i64 0, .string ⟨#[]⟩, .string ⟨#[]⟩, .int .i64 0, .int .i64 0] 65 (0, 0)) := by
    have := heap_alloc_new (w.alloc (.cells #[.int .i64 n.id, .string n.kd, n.rv] 29)) (.cells #[.int .i64 0, .int .i64 0, .string ⟨#[]⟩, .slice none 0 0, .string ⟨#[]⟩, .int .i64 0, .int .i64 0, .string ⟨#[]⟩, .string ⟨#[]⟩, .int .i64 0, .int .i64 0] 65)
    simp only [World.size_alloc] at this
    rw [hW]; exact this
  have c60 := copiedNode_any n W (hR.on hB) hl
  obtain ⟨av, lv, cv, hv⟩ := hR.sl
  obtain ⟨id, kd, rv, rc⟩ := n
  simp only at hv hl m0 c60 hW
  subst hv
  have x0 : W.cell? ⟨w.heap.size, 0, none⟩ = some (.int .i64 id) := cell_at m0 rfl
  have x1 : W.cell? ⟨w.heap.size, 1, none⟩ = some (.string kd) := cell_at m0 rfl
  have x2 : W.cell? ⟨w.heap.size, 2, none⟩ = some (.slice av lv cv) := cell_at m0 rfl
  have HB := Lib.hid hB
  have HM := Lib.hid m1
  clear hB m0 m1 hR
  go_enter Try.func59, Try.ntmps59
  go_upto_region 1 with fail
  rw [← hW]
  clear hW
  go_wp2_with (go_at_call 60; refine c60.mono ?_; rintro e W2 ⟨v', rfl, hO2, hB2⟩; refine Hid.out ?_)
  refine Lib.hid ?_
  obtain ⟨ao, cp, rfl⟩ := own_slice hO2
  have n1 := (hB2.block _ (Array.getElem?_eq_some_iff.1 HM.out).1).trans HM.out
  have q0 : W2.cell? ⟨w.heap.size + 1, 0, none⟩ = some (.int .i64 0) := cell_at n1 rfl
  have f0 : W2.frozen? ⟨w.heap.size + 1, 0, none⟩ = false := frz_at n1
  have q1 : W2.cell? ⟨w.heap.size + 1, 1, none⟩ = some (.int .i64 0) := cell_at n1 rfl
  have f1 : W2.frozen? ⟨w.heap.size + 1, 1, none⟩ = false := frz_at n1
  have q2 : W2.cell? ⟨w.heap.size + 1, 2, none⟩ = some (.string ⟨#[]⟩) := cell_at n1 rfl
  have f2 : W2.frozen? ⟨w.heap.size + 1, 2, none⟩ = false := frz_at n1
  have q3 : W2.cell? ⟨w.heap.size + 1, 3, none⟩ = some (.slice none 0 0) := cell_at n1 rfl
  have f3 : W2.frozen? ⟨w.heap.size + 1, 3, none⟩ = false := frz_at n1
  have q4 : W2.cell? ⟨w.heap.size + 1, 4, none⟩ = some (.string ⟨#[]⟩) := cell_at n1 rfl
  have f4 : W2.frozen? ⟨w.heap.size + 1, 4, none⟩ = false := frz_at n1
  have q5 : W2.cell? ⟨w.heap.size + 1, 5, none⟩ = some (.int .i64 0) := cell_at n1 rfl
  have f5 : W2.frozen? ⟨w.heap.size + 1, 5, none⟩ = false := frz_at n1
  have q6 : W2.cell? ⟨w.heap.size + 1, 6, none⟩ = some (.int .i64 0) := cell_at n1 rfl
  have f6 : W2.frozen? ⟨w.heap.size + 1, 6, none⟩ = false := frz_at n1
  have q7 : W2.cell? ⟨w.heap.size + 1, 7, none⟩ = some (.string ⟨#[]⟩) := cell_at n1 rfl
  have f7 : W2.frozen? ⟨w.heap.size + 1, 7, none⟩ = false := frz_at n1
  have q8 : W2.cell? ⟨w.heap.size + 1, 8, none⟩ = some (.string ⟨#[]⟩) := cell_at n1 rfl
  have f8 : W2.frozen? ⟨w.heap.size + 1, 8, none⟩ = false := frz_at n1
  have q9 : W2.cell? ⟨w.heap.size + 1, 9, none⟩ = some (.int .i64 0) := cell_at n1 rfl
  have f9 : W2.frozen? ⟨w.heap.size + 1, 9, none⟩ = false := frz_at n1
  have q10 : W2.cell? ⟨w.heap.size + 1, 10, none⟩ = some (.int .i64 0) := cell_at n1 rfl
  have f10 : W2.frozen? ⟨w.heap.size + 1, 10, none⟩ = false := frz_at n1
  have HU : Hid (∀ j v, ([.int .i64 1, .int .i64 id, .string kd, .slice ao rc.length cp, .string ⟨#[]⟩, .int .i64 0, .int .i64 0, .string ⟨#[]⟩, .string ⟨#[]⟩, .int .i64 0, .int .i64 0] : List Value)[j]? = some v → (setN W2 (w.heap.size + 1) 0 [.int .i64 1, .int .i64 id, .string kd, .slice ao rc.length cp, .string ⟨#[]⟩, .int .i64 0, .int .i64 0, .string ⟨#[]⟩, .string ⟨#[]⟩, .int .i64 0, .int .i64 0]).cell? ⟨w.heap.size + 1, 0 + j, none⟩ = some v) := setN_in _ _ _ (fun j hj => by simp [World.cell?, n1]; simpa using hj)
  have HX : Hid (Below w.heap.size w (setN W2 (w.heap.size + 1) 0 [.int .i64 1, .int .i64 id, .string kd, .slice ao rc.length cp, .string ⟨#[]⟩, .int .i64 0, .int .i64 0, .string ⟨#[]⟩, .string ⟨#[]⟩, .int .i64 0, .int .i64 0]) ∧ OwnRc (setN W2 (w.heap.size + 1) 0 [.int .i64 1, .int .i64 id, .string kd, .slice ao rc.length cp, .string ⟨#[]⟩, .int .i64 0, .int .i64 0, .string ⟨#[]⟩, .string ⟨#[]⟩, .int .i64 0, .int .i64 0]) w.heap.size (.slice ao rc.length cp) rc) := ⟨below_setN (by omega) _ _ _ (on1K HB.out hB2 (Nat.le_refl _)), (OwnRc.kt (own_base hO2 HB.out.size) (kt_setN (t' := 65) (by decide) _ _ _ ⟨_, n1⟩ (Kt.refl _ _)))⟩
  clear hO2 hB2 n1 c60 x0 x1 x2
  go_wp2
  have v0 : (((((((((((W2.setCell ⟨w.heap.size + 1, 0, none⟩ (.int .i64 1)).setCell ⟨w.heap.size + 1, 1, none⟩ (.int .i64 id)).setCell ⟨w.heap.size + 1, 2, none⟩ (.string kd)).setCell ⟨w.heap.size + 1, 3, none⟩ (.slice ao rc.length cp)).setCell ⟨w.heap.size + 1, 4, none⟩ (.string ⟨#[]⟩)).setCell ⟨w.heap.size + 1, 5, none⟩ (.int .i64 0)).setCell ⟨w.heap.size + 1, 6, none⟩ (.int .i64 0)).setCell ⟨w.heap.size + 1, 7, none⟩ (.string ⟨#[]⟩)).setCell ⟨w.heap.size + 1, 8, none⟩ (.string ⟨#[]⟩)).setCell ⟨w.heap.size + 1, 9, none⟩ (.int .i64 0)).setCell ⟨w.heap.size + 1, 10, none⟩ (.int .i64 0)).cell? ⟨w.heap.size + 1, 0, none⟩ = some (.int .i64 1) := HU.out 0 _ rfl
  have v1 : (((((((((((W2.setCell ⟨w.heap.size + 1, 0, none⟩ (.int .i64 1)).setCell ⟨w.heap.size + 1, 1, none⟩ (.int .i64 id)).setCell ⟨w.heap.size + 1, 2, none⟩ (.string kd)).setCell ⟨w.heap.size + 1, 3, none⟩ (.slice ao rc.length cp)).setCell ⟨w.heap.size + 1, 4, none⟩ (.string ⟨#[]⟩)).setCell ⟨w.heap.size + 1, 5, none⟩ (.int .i64 0)).setCell ⟨w.heap.size + 1, 6, none⟩ (.int .i64 0)).setCell ⟨w.heap.size + 1, 7, none⟩ (.string ⟨#[]⟩)).setCell ⟨w.heap.size + 1, 8, none⟩ (.string ⟨#[]⟩)).setCell ⟨w.heap.size + 1, 9, none⟩ (.int .i64 0)).setCell ⟨w.heap.size + 1, 10, none⟩ (.int .i64 0)).cell? ⟨w.heap.size + 1, 1, none⟩ = some (.int .i64 id) := HU.out 1 _ rfl
  have v2 : (((((((((((W2.setCell ⟨w.heap.size + 1, 0, none⟩ (.int .i64 1)).setCell ⟨w.heap.size + 1, 1, none⟩ (.int .i64 id)).setCell ⟨w.heap.size + 1, 2, none⟩ (.string kd)).setCell ⟨w.heap.size + 1, 3, none⟩ (.slice ao rc.length cp)).setCell ⟨w.heap.size + 1, 4, none⟩ (.string ⟨#[]⟩)).setCell ⟨w.heap.size + 1, 5, none⟩ (.int .i64 0)).setCell ⟨w.heap.size + 1, 6, none⟩ (.int .i64 0)).setCell ⟨w.heap.size + 1, 7, none⟩ (.string ⟨#[]⟩)).setCell ⟨w.heap.size + 1, 8, none⟩ (.string ⟨#[]⟩)).setCell ⟨w.heap.size + 1, 9, none⟩ (.int .i64 0)).setCell ⟨w.heap.size + 1, 10, none⟩ (.int .i64 0)).cell? ⟨w.heap.size + 1, 2, none⟩ = some (.string kd) := HU.out 2 _ rfl
  have v3 : (((((((((((W2.setCell ⟨w.heap.size + 1, 0, none⟩ (.int .i64 1)).setCell ⟨w.heap.size + 1, 1, none⟩ (.int .i64 id)).setCell ⟨w.heap.size + 1, 2, none⟩ (.string kd)).setCell ⟨w.heap.size + 1, 3, none⟩ (.slice ao rc.length cp)).setCell ⟨w.heap.size + 1, 4, none⟩ (.string ⟨#[]⟩)).setCell ⟨w.heap.size + 1, 5, none⟩ (.int .i64 0)).setCell ⟨w.heap.size + 1, 6, none⟩ (.int .i64 0)).setCell ⟨w.heap.size + 1, 7, none⟩ (.string ⟨#[]⟩)).setCell ⟨w.heap.size + 1, 8, none⟩ (.string ⟨#[]⟩)).setCell ⟨w.heap.size + 1, 9, none⟩ (.int .i64 0)).setCell ⟨w.heap.size + 1, 10, none⟩ (.int .i64 0)).cell? ⟨w.heap.size + 1, 3, none⟩ = some (.slice ao rc.length cp) := HU.out 3 _ rfl
  have v4 : (((((((((((W2.setCell ⟨w.heap.size + 1, 0, none⟩ (.int .i64 1)).setCell ⟨w.heap.size + 1, 1, none⟩ (.int .i64 id)).setCell ⟨w.heap.size + 1, 2, none⟩ (.string kd)).setCell ⟨w.heap.size + 1, 3, none⟩ (.slice ao rc.length cp)).setCell ⟨w.heap.size + 1, 4, none⟩ (.string ⟨#[]⟩)).setCell ⟨w.heap.size + 1, 5, none⟩ (.int .i64 0)).setCell ⟨w.heap.size + 1, 6, none⟩ (.int .i64 0)).setCell ⟨w.heap.size + 1, 7, none⟩ (.string ⟨#[]⟩)).setCell ⟨w.heap.size + 1, 8, none⟩ (.string ⟨#[]⟩)).setCell ⟨w.heap.size + 1, 9, none⟩ (.int .i64 0)).setCell ⟨w.heap.size + 1, 10, none⟩ (.int .i64 0)).cell? ⟨w.heap.size + 1, 4, none⟩ = some (.string ⟨#[]⟩) := HU.out 4 _ rfl
  have v5 : (((((((((((W2.setCell ⟨w.heap.size + 1, 0, none⟩ (.int .i64 1)).setCell ⟨w.heap.size + 1, 1, none⟩ (.int .i64 id)).setCell ⟨w.heap.size + 1, 2, none⟩ (.string kd)).setCell ⟨w.heap.size + 1, 3, none⟩ (.slice ao rc.length cp)).setCell ⟨w.heap.size + 1, 4, none⟩ (.string ⟨#[]⟩)).setCell ⟨w.heap.size + 1, 5, none⟩ (.int .i64 0)).setCell ⟨w.heap.size + 1, 6, none⟩ (.int .i64 0)).setCell ⟨w.heap.size + 1, 7, none⟩ (.string ⟨#[]⟩)).setCell ⟨w.heap.size + 1, 8, none⟩ (.string ⟨#[]⟩)).setCell ⟨w.heap.size + 1, 9, none⟩ (.int .i64 0)).setCell ⟨w.heap.size + 1, 10, none⟩ (.int .i64 0)).cell? ⟨w.heap.size + 1, 5, none⟩ = some (.int .i64 0) := HU.out 5 _ rfl
  have v6 : (((((((((((W2.setCell ⟨w.heap.size + 1, 0, none⟩ (.int .i64 1)).setCell ⟨w.heap.size + 1, 1, none⟩ (.int .i64 id)).setCell ⟨w.heap.size + 1, 2, none⟩ (.string kd)).setCell ⟨w.heap.size + 1, 3, none⟩ (.slice ao rc.length cp)).setCell ⟨w.heap.size + 1, 4, none⟩ (.string ⟨#[]⟩)).setCell ⟨w.heap.size + 1, 5, none⟩ (.int .i64 0)).setCell ⟨w.heap.size + 1, 6, none⟩ (.int .i64 0)).setCell ⟨w.heap.size + 1, 7, none⟩ (.string ⟨#[]⟩)).setCell ⟨w.heap.size + 1, 8, none⟩ (.string ⟨#[]⟩)).setCell ⟨w.heap.size + 1, 9, none⟩ (.int .i64 0)).setCell ⟨w.heap.size + 1, 10, none⟩ (.int .i64 0)).cell? ⟨w.heap.size + 1, 6, none⟩ = some (.int .i64 0) := HU.out 6 _ rfl
  have v7 : (((((((((((W2.setCell ⟨w.heap.size + 1, 0, none⟩ (.int .i64 1)).setCell ⟨w.heap.size + 1, 1, none⟩ (.int .i64 id)).setCell ⟨w.heap.size + 1, 2, none⟩ (.string kd)).setCell ⟨w.heap.size + 1, 3, none⟩ (.slice ao rc.length cp)).setCell ⟨w.heap.size + 1, 4, none⟩ (.string ⟨#[]⟩)).setCell ⟨w.heap.size + 1, 5, none⟩ (.int .i64 0)).setCell ⟨w.heap.size + 1, 6, none⟩ (.int .i64 0)).setCell ⟨w.heap.size + 1, 7, none⟩ (.string ⟨#[]⟩)).setCell ⟨w.heap.size + 1, 8, none⟩ (.string ⟨#[]⟩)).setCell ⟨w.heap.size + 1, 9, none⟩ (.int .i64 0)).setCell ⟨w.heap.size + 1, 10, none⟩ (.int .i64 0)).cell? ⟨w.heap.size + 1, 7, none⟩ = some (.string ⟨#[]⟩) := HU.out 7 _ rfl
  have v8 : (((((((((((W2.setCell ⟨w.heap.size + 1, 0, none⟩ (.int .i64 1)).setCell ⟨w.heap.size + 1, 1, none⟩ (.int .i64 id)).setCell ⟨w.heap.size + 1, 2, none⟩ (.string kd)).setCell ⟨w.heap.size + 1, 3, none⟩ (.slice ao rc.length cp)).setCell ⟨w.heap.size + 1, 4, none⟩ (.string ⟨#[]⟩)).setCell ⟨w.heap.size + 1, 5, none⟩ (.int .i64 0)).setCell ⟨w.heap.size + 1, 6, none⟩ (.int .i64 0)).setCell ⟨w.heap.size + 1, 7, none⟩ (.string ⟨#[]⟩)).setCell ⟨w.heap.size + 1, 8, none⟩ (.string ⟨#[]⟩)).setCell ⟨w.heap.size + 1, 9, none⟩ (.int .i64 0)).setCell ⟨w.heap.size + 1, 10, none⟩ (.int .i64 0)).cell? ⟨w.heap.size + 1, 8, none⟩ = some (.string ⟨#[]⟩) := HU.out 8 _ rfl
  have v9 : (((((((((((W2.setCell ⟨w.heap.size + 1, 0, none⟩ (.int .i64 1)).setCell ⟨w.heap.size + 1, 1, none⟩ (.int .i64 id)).setCell ⟨w.heap.size + 1, 2, none⟩ (.string kd)).setCell ⟨w.heap.size + 1, 3, none⟩ (.slice ao rc.length cp)).setCell ⟨w.heap.size + 1, 4, none⟩ (.string ⟨#[]⟩)).setCell ⟨w.heap.size + 1, 5, none⟩ (.int .i64 0)).setCell ⟨w.heap.size + 1, 6, none⟩ (.int .i64 0)).setCell ⟨w.heap.size + 1, 7, none⟩ (.string ⟨#[]⟩)).setCell ⟨w.heap.size + 1, 8, none⟩ (.string ⟨#[]⟩)).setCell ⟨w.heap.size + 1, 9, none⟩ (.int .i64 0)).setCell ⟨w.heap.size + 1, 10, none⟩ (.int .i64 0)).cell? ⟨w.heap.size + 1, 9, none⟩ = some (.int .i64 0) := HU.out 9 _ rfl
  have v10 : (((((((((((W2.setCell ⟨w.heap.size + 1, 0, none⟩ (.int .i64 1)).setCell ⟨w.heap.size + 1, 1, none⟩ (.int .i64 id)).setCell ⟨w.heap.size + 1, 2, none⟩ (.string kd)).setCell ⟨w.heap.size + 1, 3, none⟩ (.slice ao rc.length cp)).setCell ⟨w.heap.size + 1, 4, none⟩ (.string ⟨#[]⟩)).setCell ⟨w.heap.size + 1, 5, none⟩ (.int .i64 0)).setCell ⟨w.heap.size + 1, 6, none⟩ (.int .i64 0)).setCell ⟨w.heap.size + 1, 7, none⟩ (.string ⟨#[]⟩)).setCell ⟨w.heap.size + 1, 8, none⟩ (.string ⟨#[]⟩)).setCell ⟨w.heap.size + 1, 9, none⟩ (.int .i64 0)).setCell ⟨w.heap.size + 1, 10, none⟩ (.int .i64 0)).cell? ⟨w.heap.size + 1, 10, none⟩ = some (.int .i64 0) := HU.out 10 _ rfl
  refine bodyPost_ret (v := (newO ⟨id, kd, .slice ao rc.length cp, rc⟩).one) ?_ rfl ⟨newO ⟨id, kd, .slice ao rc.length cp, rc⟩, rfl, rfl, HX.out.2, HX.out.1⟩
  simp [results, Try.results59, go_sem, newO, pr0, te0, Opx.one, v0, v1, v2, v3, v4, v5, v6, v7, v8, v9, v10]
end Go.Proofs.Ytelbmianojomgaa
