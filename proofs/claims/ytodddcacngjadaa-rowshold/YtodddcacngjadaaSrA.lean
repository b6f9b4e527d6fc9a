/-
  Rows of holders that a call made, sorted: slices.SortStableFunc at this program.
-/
import Derived.Test.YtodddcacngjadaaCmB
import Derived.Test.YtodddcacngjadaaFulX
import Derived.Shelf.SlSortCmp.NoneTotal
import Derived.Lib.OwnBridge
namespace Go.Proofs.Ytodddcacngjadaa
open Go.Shelf Go.RowKit Go.Lib Go.Sort
set_option linter.unusedVariables false
set_option linter.unusedSimpArgs false

theorem flat_len {α : Type} (enc : α → List Value) (s : Nat) (hs : ∀ x, (enc x).length = s) (L : List α) : (L.flatMap enc).length = L.length * s := by
  induction L with
  | nil => simp
  | cons x r ih => simp only [List.flatMap_cons, List.length_append, List.length_cons, ih, hs, Nat.add_mul]; omega
theorem flat_at {α : Type} (enc : α → List Value) (s : Nat) (hs : ∀ x, (enc x).length = s) : ∀ (L : List α) (k : Nat) (x : α) (i : Nat), L[k]? = some x → i < s → (L.flatMap enc)[k * s + i]? = (enc x)[i]? := by
  intro L
  induction L with
  | nil => intro k x i h; simp at h
  | cons y r ih =>
    intro k x i h hi
    rw [List.flatMap_cons]
    cases k with
    | zero =>
      simp at h; subst h
      rw [Nat.zero_mul, Nat.zero_add, List.getElem?_append_left (by rw [hs]; exact hi)]
    | succ k =>
      rw [List.getElem?_append_right (by rw [hs, Nat.add_mul]; omega), hs, show (k + 1) * s + i - s = k * s + i by rw [Nat.add_mul]; omega]
      exact ih k x i (by simpa using h) hi
theorem holds_own {w : World} {base g n cap : Nat} {e : TypeId} {size : Nat} {xs : List Value} (h : w.ownsRow base e size (.slice (some ⟨g, 0, none⟩) n cap) n xs) : Go.Sort.Holds id w g 0 xs.toArray := by
  have hc := h.cells (g := g) rfl
  rcases h.2 with ⟨h0, _⟩ | ⟨g', cap', cur, e0, hb, hg, hn, hm, hs, ht⟩
  · cases h0
  · injection e0 with e1 _ _
    injection e1 with e1
    injection e1 with e1
    subst e1
    intro j hj
    have hj' : j < xs.length := by simpa using hj
    have := hc j xs[j] (List.getElem?_eq_getElem hj')
    rw [Addr.add_lit] at this
    refine ⟨by rw [this]; simp [getElem!_pos, hj'], by simp [World.frozen?, hg]⟩
theorem own_putRow {w : World} {base g n cap q : Nat} {e : TypeId} {size : Nat} {xs ys : List Value} (h : w.ownsRow base e size (.slice (some ⟨g, 0, none⟩) n cap) n xs) (hy : ys.length = xs.length) :
    (Go.Sort.putRow id (Go.Sort.ahead w q) g 0 ys.toArray).ownsRow base e size (.slice (some ⟨g, 0, none⟩) n cap) n ys := by
  have hl := h.1
  rcases h.2 with ⟨h0, _⟩ | ⟨g', cap', cur, e0, hb, hg, hn, hm, hs, ht⟩
  · cases h0
  · injection e0 with e1 _ e3
    injection e1 with e1
    injection e1 with e1
    subst e1; subst e3
    refine ⟨by omega, .inr ⟨g, cap, Go.Sort.putCells id 0 ys.toArray cur, rfl, hb, ?_, hn, hm, by simpa [Go.Sort.putCells] using hs, ?_⟩⟩
    · simp [Go.Sort.putRow, Go.Sort.mapBlock, Go.Sort.ahead, Array.getElem?_modify, hg, Go.Sort.onCells]
    · apply List.ext_getElem?
      intro j
      rw [List.getElem?_take, Array.getElem?_toList]
      by_cases hj : j < n * size
      · have hjc : j < cur.size := by
          have := Nat.mul_le_mul_right size hn
          omega
        rw [if_pos hj]
        simp only [Go.Sort.putCells, Array.getElem?_mapIdx, Array.getElem?_eq_getElem hjc, Option.map_some]
        rw [if_pos (by simp; omega), List.getElem?_eq_getElem (by omega)]
        simp [getElem!_pos, show j < ys.length by omega]
      · rw [if_neg hj, List.getElem?_eq_none (by omega)]
theorem flatK_flat {α : Type} [Inhabited α] (enc : α → List Value) (s : Nat) (h0 : 0 < s) (hs : ∀ x, (enc x).length = s) (L : List α) : Go.Sort.flatK enc s L.toArray = (L.flatMap enc).toArray := by
  refine Go.Sort.ext_get! (by simp [flat_len enc s hs]) fun t ht => ?_
  have ht' : t < L.length * s := by simpa using ht
  rw [Go.Sort.get_flatK enc s L.toArray t (by simpa using ht')]
  have hq : t / s < L.length := (Nat.div_lt_iff_lt_mul h0).2 ht'
  have hr : t % s < s := Nat.mod_lt _ h0
  have hat := flat_at enc s hs L (t / s) L[t / s] (t % s) (List.getElem?_eq_getElem hq) hr
  rw [show t / s * s + t % s = t by rw [Nat.mul_comm]; exact Nat.div_add_mod t s] at hat
  have hl : t < (L.flatMap enc).length := by rw [flat_len enc s hs]; exact ht'
  have e1 : (L.flatMap enc).toArray[t]! = (L.flatMap enc)[t] := by rw [getElem!_pos _ t (by simpa using hl)]; simp
  have e2 : L.toArray[t / s]! = L[t / s] := by simp [getElem!_pos, hq]
  rw [e1, e2]
  rw [List.getElem?_eq_getElem hl, List.getElem?_eq_getElem (by rw [hs]; exact hr)] at hat
  rw [getElem!_pos (enc L[t / s]) (t % s) (by rw [hs]; exact hr)]
  exact (Option.some.inj hat).symm

/-- Nothing but the row turns. -/
theorem grown_sort {α : Type} [Inhabited α] (enc : α → List Value) (k : Nat) (w : World) (g n : Nat) (d : Array α) (os : Array Obj) : w.grownBy (sortWorldK enc k w g 0 n d os) (some g) := by
  refine ⟨rfl, rfl, rfl, ?_, fun b hb hne => ?_⟩
  · unfold sortWorldK; rw [size_grow, size_putRowK]; exact Nat.le_add_right _ _
  · have hb' : b < (putRowK enc k (Sort.ahead w n) g 0 d).heap.size := by rw [size_putRowK]; exact hb
    unfold sortWorldK
    show ((putRowK enc k (Sort.ahead w n) g 0 d).heap ++ os)[b]? = w.heap[b]?
    rw [Array.getElem?_append_left hb']
    have hgb : ¬ g = b := fun e => hne (by rw [e])
    simp [putRowK, putRow, mapBlock, Sort.ahead, Array.getElem?_modify, hgb]
theorem cell_sort {α : Type} [Inhabited α] (enc : α → List Value) (k : Nat) (w : World) (g n : Nat) (d : Array α) (os : Array Obj) {a : Addr} {v : Value} (h : w.cell? a = some v) (hne : a.block ≠ g) : (sortWorldK enc k w g 0 n d os).cell? a = some v := by
  unfold sortWorldK
  rw [cell?_grow _ _ _ (by rw [size_putRowK]; exact cell_lt h), cell?_putRowK_other enc k _ g 0 d a hne]
  exact h
theorem perm_list {α : Type} [Inhabited α] {d d' : Array α} (h : PermIn 0 d.size d d') : d'.toList.Perm d.toList := by
  have h1 := h.2.2
  have e1 : d'.extract 0 d.size = d' := by rw [← h.1]; exact Array.extract_size
  have e2 : d.extract 0 d.size = d := Array.extract_size
  rwa [e1, e2] at h1
theorem sorted_list {α : Type} [Inhabited α] {cf : α → α → Int} {d : Array α} {n : Nat} (hn : n = d.size) (h : SortedIn (ltOf cf) 0 n d) : d.toList.Pairwise (fun x y => ¬ cf y x < 0) := by
  rw [List.pairwise_iff_getElem]
  intro i j hi hj hij
  have hi' : i < d.size := by simpa using hi
  have hj' : j < d.size := by simpa using hj
  have := of_decide_eq_false (h i j (Nat.zero_le _) hij (by omega))
  rw [getElem!_pos d i hi', getElem!_pos d j hj'] at this
  simpa using this

set_option maxHeartbeats 2000000 in
theorem sortStable_none (p : Option Addr) (cap : Nat) (fv : Value) (w : World) : Calls Try.prog 11 #[.slice p 0 cap, fv] w fun e w' => e = .returned (.tuple #[]) ∧ w' = w := by
  have hi : ∀ W, Calls Try.prog 37 #[.slice p 0 cap, .int .i64 0, .int .i64 0, fv] W fun e w' => e = .returned (.tuple #[]) ∧ w' = W := fun W => AnyF.insertionSortCmpFunc_none insH p cap fv W
  have hs : ∀ W, Calls Try.prog 24 #[.slice p 0 cap, .int .i64 0, fv] W fun e w' => e = .returned (.tuple #[]) ∧ w' = W := fun W => by
    go_enter Try.func24, Try.ntmps24
    go_wp2
    refine wp_loop_rounds 1 ?_
    rw [rounds_succ]
    go_wp2_with (go_at_call 37; refine (hi _).mono ?_; rintro e w' ⟨rfl, rfl⟩)
    refine wp_loop_rounds 1 ?_
    rw [rounds_succ]
    go_wp2
    go_end0
    exact ⟨rfl, rfl⟩
  go_enter Try.func11, Try.ntmps11
  go_wp2_with (go_at_call 24; refine (hs _).mono ?_; rintro e w' ⟨rfl, rfl⟩)
  go_end0
  exact ⟨rfl, rfl⟩

/-- Holders of the call's own, sorted. -/
theorem sortH_any (down : Bool) {w : World} {base : Nat} {vh : Value} (Hs : List HvS) (ho : w.ownsRow base 46 4 vh Hs.length (Hs.flatMap encH)) (hl : Hs.length ≤ 1000) (bw : Nat) (hw : w.cell? ⟨bw, 0, none⟩ = some (.int .i64 (wayV down))) (hbw : vh.ownBlock ≠ some bw) :
    Calls Try.prog 11 #[vh, .func (.func 12) #[] #[.pointer (some ⟨bw, 0, none⟩)]] w fun e w' => e = .returned (.tuple #[]) ∧ ∃ H' : List HvS, H'.Perm Hs ∧ H'.Pairwise (fun x y => ¬ cfH down y x < 0) ∧ w'.ownsRow base 46 4 vh H'.length (H'.flatMap encH) ∧ w.grownBy w' vh.ownBlock := by
  by_cases h0 : Hs = []
  · subst h0
    obtain ⟨ao, cp, rfl⟩ := own_slice ho
    refine (sortStable_none ao cp _ w).mono ?_
    rintro e w' ⟨rfl, rfl⟩
    exact ⟨rfl, [], List.Perm.refl _, List.Pairwise.nil, ho, grown_of_below (Below.refl _ _) _⟩
  · have hpos : 0 < Hs.length := List.length_pos_iff.2 h0
    obtain ⟨g, cap, rfl, hgl⟩ : ∃ g cap, vh = .slice (some ⟨g, 0, none⟩) Hs.length cap ∧ g < w.heap.size := by
      rcases ho.2 with ⟨_, h⟩ | ⟨g, cap, cur, e, _, hg, _⟩
      · omega
      · exact ⟨g, cap, e, (Array.getElem?_eq_some_iff.1 hg).1⟩
    have hgw : bw ≠ g := fun e => hbw (by rw [e]; rfl)
    have hH : HoldsK encH 4 w g 0 Hs.toArray := by
      unfold HoldsK
      rw [flatK_flat encH 4 (by decide) encH_len]
      exact holds_own ho
    have R : RowK encH 4 w g 0 Hs.toArray := ⟨encH_len, encH_one, hH, hgl⟩
    have eg : ∀ args w, (callFunc 12 args).run Try.prog w = .ok (.enter 12 args) w := enters_of Try.func12 (by kernel_rfl) rfl
    have e37 : ∀ args w, (callFunc 37 args).run Try.prog w = .ok (.enter 37 args) w := enters_of Try.func37 (by kernel_rfl) rfl
    have hcmp : CmpLays Try.prog 12 #[.pointer (some ⟨bw, 0, none⟩)] encH 4 (cfH down) g 0 Hs.toArray.size w := fun m os dk hdk x y =>
      byWay_any down x y bw _ (cell_sort encH 4 w g m dk os hw hgw)
    have hins : ∀ (a b : Nat) (d1 : Array HvS) (w1 : World), Hs.toArray.size = d1.size → SWK encH 4 w g 0 d1 w1 → a ≤ b → b ≤ d1.size → d1.size < 4611686018427387904 → Calls Try.prog 37 #[.slice (some ⟨g, 0, none⟩) d1.size cap, .int .i64 a, .int .i64 b, .func (.func 12) #[] #[.pointer (some ⟨bw, 0, none⟩)]] w1 fun e w' => e = .returned (.tuple #[]) ∧ SWK encH 4 w g 0 (Sort.insertionSort (ltOf (cfH down)) d1 a b) w' := fun a b d1 w1 hs hS hab hb hsz =>
      AnyQ.insertionSortCmpFunc_w insH 4 Try.isAgg46 Try.sizeOf46 encH (cfH down) 12 _ g 0 cap a b Hs.toArray d1 w w1 eg hcmp R hs hS (cfH_swo down) hab hb hsz
    have c := sortStable_any symL encH (cfH down) (cfH_swo down) 12 #[.pointer (some ⟨bw, 0, none⟩)] eg g 0 cap Hs.toArray w hcmp R e37 hins (by simpa using hl)
    rw [show Hs.toArray.size = Hs.length by simp] at c
    refine c.mono ?_
    rintro e w' ⟨rfl, d', hp, hs, n, os, rfl⟩
    have hp' : PermIn 0 Hs.toArray.size Hs.toArray d' := by rw [show Hs.toArray.size = Hs.length by simp]; exact hp
    have hpl := perm_list hp'
    have hz : d'.size = Hs.length := by have := hp'.1; simpa using this
    refine ⟨rfl, d'.toList, by simpa using hpl, sorted_list hz.symm hs, ?_, grown_sort encH 4 w g n d' os⟩
    have hlen : d'.toList.length = Hs.length := by simp [hz]
    have hown := own_putRow (q := n) (ys := d'.toList.flatMap encH) ho (by rw [flat_len encH 4 encH_len, flat_len encH 4 encH_len, hlen])
    rw [← flatK_flat encH 4 (by decide) encH_len, Array.toArray_toList] at hown
    change (putRowK encH 4 (Sort.ahead w n) g 0 d').ownsRow _ _ _ _ _ _ at hown
    rw [hlen]
    exact own_kt hown (Kt.of_below ⟨rfl, rfl, rfl, by unfold sortWorldK; rw [size_grow]; exact Nat.le_add_right _ _, fun b hb => by
      unfold sortWorldK
      show ((putRowK encH 4 (Sort.ahead w n) g 0 d').heap ++ os)[b]? = _
      rw [Array.getElem?_append_left hb]⟩)
end Go.Proofs.Ytodddcacngjadaa
