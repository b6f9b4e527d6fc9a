/-
  The walks of hasNode, hasTie, of the closures of between and of what they hand on.
-/
import Derived.Test.YtidmfdbckpficaaM23
namespace Go.Proofs.Ytidmfdbckpficaa
open Go.RowKit
set_option linter.unusedVariables false
set_option linter.unusedSimpArgs false

theorem upd_cases {κ β : Type} [DecidableEq κ] {F : κ → Option β} {x y : κ} {v u : β} (h : upd F x v y = some u) : (y = x ∧ u = v) ∨ F y = some u := by
  unfold upd at h
  split at h
  · rename_i e
    exact .inl ⟨e, (Option.some.inj h).symm⟩
  · exact .inr h
theorem nG_mem_aux (L : List Nd) : ∀ (F : Int → Option Nd) (id : Int) (m : Nd), L.foldl (fun F n => upd F n.id n) F id = some m → (m ∈ L ∧ m.id = id) ∨ F id = some m := by
  induction L with
  | nil => intro F id m h; exact .inr h
  | cons a r ih =>
    intro F id m h
    rcases ih _ id m h with ⟨h1, h2⟩ | h1
    · exact .inl ⟨List.mem_cons_of_mem _ h1, h2⟩
    · rcases upd_cases h1 with ⟨rfl, rfl⟩ | h2
      · exact .inl ⟨List.mem_cons_self .., rfl⟩
      · exact .inr h2
theorem nG_mem {L : List Nd} {id : Int} {m : Nd} (h : nG L id = some m) : m ∈ L ∧ m.id = id := by
  rcases nG_mem_aux L _ id m h with h | h
  · exact h
  · cases h
theorem tG_mem_aux (L : List Te) : ∀ (F : Te → Option Value) (t : Te) (v : Value), L.foldl (fun F n => upd F n (.int .i64 1)) F t = some v → (t ∈ L ∧ v = .int .i64 1) ∨ F t = some v := by
  induction L with
  | nil => intro F id m h; exact .inr h
  | cons a r ih =>
    intro F id m h
    rcases ih _ id m h with ⟨h1, h2⟩ | h1
    · exact .inl ⟨List.mem_cons_of_mem _ h1, h2⟩
    · rcases upd_cases h1 with ⟨rfl, rfl⟩ | h2
      · exact .inl ⟨List.mem_cons_self .., rfl⟩
      · exact .inr h2
theorem tG_mem {L : List Te} {t : Te} {v : Value} (h : tG L t = some v) : t ∈ L ∧ v = .int .i64 1 := by
  rcases tG_mem_aux L _ t v h with h | h
  · exact h
  · cases h
/-- Is there one of its id and its kind? -/
def hasN (N : List Nd) (n : Nd) : Bool := match nG N n.id with
  | some m => m.kd.toList == n.kd.toList
  | none => false
/-- Is the tie there? -/
def hasT (T : List Te) (t : Te) : Bool := (tG T t).isSome
theorem hasN_some {N : List Nd} {n m : Nd} (h : nG N n.id = some m) : hasN N n = (m.kd.toList == n.kd.toList) := by unfold hasN; rw [h]
theorem hasN_none {N : List Nd} {n : Nd} (h : nG N n.id = none) : hasN N n = false := by unfold hasN; rw [h]

set_option maxHeartbeats 2000000 in
set_option maxRecDepth 100000 in
theorem hasNode_any {N : List Nd} {T : List Te} {n : Nd} {st : Value} {w : World} (hS : IsSt w st N T) (hl : SlN N) (hr : ∃ a l c, n.rv = .slice a l c) (hi : idOk n.id = true) :
    Calls Try.prog 26 #[st, n.one] w fun e w' => e = .returned (.bool (hasN N n)) ∧ Below w.heap.size w w' := by
  obtain ⟨b1, b2, rfl, h1, h2⟩ := hS
  obtain ⟨av, lv, cv, hv⟩ := hr
  have hN1 := @hasN_some N n
  have hN0 := @hasN_none N n
  obtain ⟨id, kd, rv, rc⟩ := n
  simp only at hv hi hN1 hN0
  subst hv
  obtain ⟨W, hW⟩ : ∃ W, W = (w.alloc (.cells #[.map (some b1), .map (some b2)] 73)).alloc (.cells #[.int .i64 id, .string kd, .slice av lv cv] 30) := ⟨_, rfl⟩
  have hB : Below w.heap.size w W := by rw [hW]; exact b_alloc (b_alloc (Below.refl _ _) _) _
  have lk := mapN_look (h1.on hB) hi true
  have m1 : W.heap[w.heap.size + 1]? = some (.cells #[.int .i64 id, .string kd, .slice av lv cv] 30 (0, 0)) := by
    have := heap_alloc_new (w.alloc (.cells #[.map (some b1), .map (some b2)] 73)) (.cells #[.int .i64 id, .string kd, .slice av lv cv] 30)
    simp only [World.size_alloc] at this
    rw [hW]; exact this
  have hsz : W.heap.size = w.heap.size + 2 := by rw [hW]; simp
  have x1 : ∀ o, (W.alloc o).cell? ⟨w.heap.size + 1, 1, none⟩ = some (.string kd) := fun o => ((b_alloc (Below.refl _ W) o).cell (by show w.heap.size + 1 < _; omega)).trans (cell_at m1 rfl)
  have m0 : W.heap[w.heap.size]? = some (.cells #[.map (some b1), .map (some b2)] 73 (0, 0)) := by
    rw [hW]; exact (heap_alloc_old _ _ (by simp)).trans (heap_alloc_new w _)
  have y0 : W.cell? ⟨w.heap.size, 0, none⟩ = some (.map (some b1)) := cell_at m0 rfl
  have y1 : W.cell? ⟨w.heap.size + 1, 0, none⟩ = some (.int .i64 id) := cell_at m1 rfl
  have HB : Hid (Below w.heap.size w W) := hB
  clear h1 h2 hB m0 m1
  cases hm : nG N id with
  | none =>
    rw [hN0 hm]
    rw [hm] at lk
    simp only [Option.map_none, Option.getD_none, Option.isSome_none, if_true] at lk
    clear hm hN0 hN1
    go_enter Try.func26, Try.ntmps26
    go_upto_region 1 with fail
    rw [← hW]
    clear hW
    go_wp2
    go_ret
    exact ⟨rfl, b_alloc HB.out _⟩
  | some m =>
    obtain ⟨hmN, hmi⟩ := nG_mem hm
    obtain ⟨a2, l2, c2, hv2⟩ := hl m hmN
    rw [hN1 hm]
    rw [hm] at lk
    simp only [Option.map_some, Option.getD_some, Option.isSome_some, if_true, Nd.one] at lk
    clear hm hN0 hN1 hmN hmi
    obtain ⟨id2, kd2, rv2, rc2⟩ := m
    simp only at hv2 lk ⊢
    subst hv2
    go_enter Try.func26, Try.ntmps26
    go_upto_region 1 with fail
    rw [← hW]
    clear hW
    go_wp2
    go_ret
    exact ⟨rfl, b_alloc HB.out _⟩

set_option maxHeartbeats 2000000 in
set_option maxRecDepth 100000 in
theorem hasTie_any {N : List Nd} {T : List Te} {t : Te} {st : Value} {w : World} (hS : IsSt w st N T) (hk : t.key) :
    Calls Try.prog 28 #[st, t.one] w fun e w' => e = .returned (.bool (hasT T t)) ∧ Below w.heap.size w w' := by
  obtain ⟨b1, b2, rfl, h1, h2⟩ := hS
  have hT : hasT T t = (tG T t).isSome := rfl
  obtain ⟨W, hW⟩ : ∃ W, W = (w.alloc (.cells #[.map (some b1), .map (some b2)] 73)).alloc (.cells #[.string t.bd, .int .i64 t.fr, .int .i64 t.tt] 40) := ⟨_, rfl⟩
  have hB : Below w.heap.size w W := by rw [hW]; exact b_alloc (b_alloc (Below.refl _ _) _) _
  have lk := mapT_look (h2.on hB) hk
  have hval := @tG_mem T t
  obtain ⟨bd, fr, tt⟩ := t
  simp only at hW lk hval hT
  have m1 : W.heap[w.heap.size + 1]? = some (.cells #[.string bd, .int .i64 fr, .int .i64 tt] 40 (0, 0)) := by
    have := heap_alloc_new (w.alloc (.cells #[.map (some b1), .map (some b2)] 73)) (.cells #[.string bd, .int .i64 fr, .int .i64 tt] 40)
    simp only [World.size_alloc] at this
    rw [hW]; exact this
  have m0 : W.heap[w.heap.size]? = some (.cells #[.map (some b1), .map (some b2)] 73 (0, 0)) := by
    rw [hW]; exact (heap_alloc_old _ _ (by simp)).trans (heap_alloc_new w _)
  have y0 : W.cell? ⟨w.heap.size, 1, none⟩ = some (.map (some b2)) := cell_at m0 rfl
  have x0 : W.cell? ⟨w.heap.size + 1, 0, none⟩ = some (.string bd) := cell_at m1 rfl
  have x1 : W.cell? ⟨w.heap.size + 1, 1, none⟩ = some (.int .i64 fr) := cell_at m1 rfl
  have x2 : W.cell? ⟨w.heap.size + 1, 2, none⟩ = some (.int .i64 tt) := cell_at m1 rfl
  have HB : Hid (Below w.heap.size w W) := hB
  rw [hT]
  clear h1 h2 hB m0 m1 hT hk
  cases hm : tG T ⟨bd, fr, tt⟩ with
  | none =>
    rw [hm] at lk
    simp only [Option.getD_none] at lk
    clear hm hval
    go_enter Try.func28, Try.ntmps28
    go_upto_region 1 with fail
    rw [← hW]
    clear hW
    go_wp2
    go_ret
    exact ⟨rfl, HB.out⟩
  | some v =>
    obtain ⟨_, rfl⟩ := hval hm
    rw [hm] at lk
    simp only [Option.getD_some] at lk
    clear hm hval
    go_enter Try.func28, Try.ntmps28
    go_upto_region 1 with fail
    rw [← hW]
    clear hW
    go_wp2
    go_ret
    exact ⟨rfl, HB.out⟩
end Go.Proofs.Ytidmfdbckpficaa

/-
  The walks of the closures goes and stays of between.
-/
namespace Go.Proofs.Ytidmfdbckpficaa
open Go.RowKit
set_option linter.unusedVariables false
set_option linter.unusedSimpArgs false

/-- Does the node of an id go? -/
def goesN (N M : List Nd) (id : Int) : Bool := match nG N id with
  | some n => !hasN M n
  | none => false
theorem goes_some {N M : List Nd} {id : Int} {n : Nd} (h : nG N id = some n) : goesN N M id = !hasN M n := by unfold goesN; rw [h]
theorem goes_none {N M : List Nd} {id : Int} (h : nG N id = none) : goesN N M id = false := by unfold goesN; rw [h]
/-- Does a tie stay? -/
def stayT (N M : List Nd) (T : List Te) (t : Te) : Bool := hasT T t && !goesN N M t.fr && !goesN N M t.tt
/-- A stock behind a pointer. -/
def StAt (w : World) (p : Nat) (N : List Nd) (T : List Te) : Prop := ∃ b1 b2, w.heap[p]? = some (.cells #[.map (some b1), .map (some b2)] 73 (0, 0)) ∧ IsSt w (.agg #[.map (some b1), .map (some b2)]) N T
theorem StAt.on {w w' : World} {p : Nat} {N : List Nd} {T : List Te} (h : StAt w p N T) (hB : Below w.heap.size w w') : StAt w' p N T := by
  obtain ⟨b1, b2, h1, h2⟩ := h
  exact ⟨b1, b2, (hB.block p (Array.getElem?_eq_some_iff.1 h1).1).trans h1, h2.on hB⟩
theorem StAt.lt {w : World} {p : Nat} {N : List Nd} {T : List Te} (h : StAt w p N T) : p < w.heap.size := by
  obtain ⟨b1, b2, h1, h2⟩ := h
  exact (Array.getElem?_eq_some_iff.1 h1).1

set_option maxHeartbeats 2000000 in
set_option maxRecDepth 100000 in
theorem goes_any {N M : List Nd} {T U : List Te} {id : Int} {p q : Nat} {w : World} (h1 : StAt w p N T) (h2 : StAt w q M U) (hN : SlN N) (hM : SlN M) (kN : ∀ n ∈ N, idOk n.id = true) (hi : idOk id = true) :
    Calls Try.prog 25 #[.int .i64 id, .pointer (some ⟨p, 0, none⟩), .pointer (some ⟨q, 0, none⟩)] w fun e w' => e = .returned (.bool (goesN N M id)) ∧ Below w.heap.size w w' := by
  have H2 := Lib.hid h2
  obtain ⟨a1, a2, hp, c1, c2, ec, hc1, hc2⟩ := h1
  injection ec with ec
  injection ec with ec
  simp only [List.cons.injEq, and_true, Value.map.injEq, Option.some.injEq] at ec
  obtain ⟨rfl, rfl⟩ := ec
  have x0 : w.cell? ⟨p, 0, none⟩ = some (.map (some a1)) := cell_at hp rfl
  have lk := mapN_look hc1 hi true
  have hG1 := @goes_some N M id
  have hG0 := @goes_none N M id
  clear hc1 hc2 hp
  cases hm : nG N id with
  | none =>
    rw [hG0 hm]
    rw [hm] at lk
    simp only [Option.map_none, Option.getD_none, Option.isSome_none, if_true] at lk
    clear hm hG0 hG1
    go_enter Try.func25, Try.ntmps25
    go_wp2
    go_ret
    exact ⟨rfl, b_alloc (Below.refl _ _) _⟩
  | some n =>
    obtain ⟨hmN, hmi⟩ := nG_mem hm
    have hki := kN n hmN
    obtain ⟨a2, l2, c2, hv2⟩ := hN n hmN
    rw [hG1 hm]
    rw [hm] at lk
    simp only [Option.map_some, Option.getD_some, Option.isSome_some, if_true, Nd.one] at lk
    have hB : Below w.heap.size w (w.alloc (.cells #[.int .i64 n.id, .string n.kd, n.rv] 30)) := b_alloc (Below.refl _ _) _
    have hS := H2.out.on hB
    obtain ⟨b1, b2, hq, hst⟩ := hS
    have y0 : (w.alloc (.cells #[.int .i64 n.id, .string n.kd, n.rv] 30)).cell? ⟨q, 0, none⟩ = some (.map (some b1)) := cell_at hq rfl
    have y1 : (w.alloc (.cells #[.int .i64 n.id, .string n.kd, n.rv] 30)).cell? ⟨q, 1, none⟩ = some (.map (some b2)) := cell_at hq rfl
    have c51 := hasNode_any hst hM ⟨_, _, _, hv2⟩ hki
    have HB := Lib.hid hB
    clear hm hG0 hG1 hmN hmi hki hq hst hB
    generalize hasN M n = h at *
    obtain ⟨id2, kd2, rv2, rc2⟩ := n
    simp only at hv2 lk y0 y1 c51 HB
    subst hv2
    go_enter Try.func25, Try.ntmps25
    go_wp2_with (go_at_call 26; refine c51.mono ?_; rintro e W2 ⟨rfl, hB2⟩)
    go_ret
    exact ⟨rfl, on1K HB.out hB2 (Nat.le_refl _)⟩
end Go.Proofs.Ytidmfdbckpficaa
