/-
  The walk of path.longer.
-/
import Derived.Test.YtifcpjimhhpcpaaGreatDoorM29
namespace Go.Proofs.YtifcpjimhhpcpaaGreatDoor
open Go.RowKit
set_option linter.unusedVariables false
set_option linter.unusedSimpArgs false

set_option maxHeartbeats 4000000 in
set_option maxRecDepth 100000 in
theorem concatI_nil (bs : Nat) (b2 : Nat) (cb : Nat) (Y : List Int) (w : World) (hY : Y.length ≤ 8) (hY0 : 0 < Y.length) (hbs : bs < w.heap.size) (h2 : b2 < w.heap.size)
    (c0 : w.cell? ⟨bs, 0, none⟩ = some (.slice none 0 0)) (c1 : w.cell? ⟨bs, 1, none⟩ = some (.slice (some ⟨b2, 0, none⟩) Y.length cb)) (hC : ∀ j u, (cellsI Y)[j]? = some u → w.cell? ((⟨b2, 0, none⟩ : Addr).add j) = some u) :
    Calls Tryz.prog 32 #[.slice (some ⟨bs, 0, none⟩) 2 2] w fun e w' => ∃ v, e = .returned v ∧ w'.ownsRow w.heap.size 3 1 v Y.length (cellsI Y) ∧ Below w.heap.size w w' := by
  obtain ⟨i0, hi0, hz0, hz1, hz2⟩ := info_parts infoI
  have HA : Hid (∀ j u, (cellsI Y)[j]? = some u → w.cell? ((⟨b2, 0, none⟩ : Addr).add j) = some u) := hC
  clear hC
  go_enter Tryz.func32, Tryz.ntmps32
  go_wp2
  go_loopw [3, 11] (fun s i wr => CI1 w 0 Y.length s i wr) (fun _ i _ => 2 - (intOf i).toNat)
  case atStart => exact ⟨0, Nat.zero_le _, rfl, rfl, rfl⟩
  case round =>
    obtain ⟨k, hk, rfl, rfl, hw⟩ := hrel
    have hw' := hw.symm
    subst hw'
    obtain rfl | rfl | rfl : k = 0 ∨ k = 1 ∨ k = 2 := by omega
    · have R' : Hid (CI1 w 0 Y.length (.int .i64 0) (.int .i64 1) w) := ⟨1, by omega, rfl, by simp [szI], rfl⟩
      have hs0 : ((szI 0 Y.length 0 : Nat) : Int) = 0 := rfl
      rw [hs0]
      go_wp2
      refine ⟨?_, ?_⟩
      · first | exact R'.out | ((repeat apply Exists.intro); refine ⟨?_, rfl⟩; exact R'.out)
      · simp [intOf]
    · have R' : Hid (CI1 w 0 Y.length (.int .i64 (Y.length : Int)) (.int .i64 2) w) := ⟨2, by omega, rfl, by simp [szI], rfl⟩
      have hs1 : ((szI 0 Y.length 1 : Nat) : Int) = 0 := rfl
      rw [hs1]
      go_wp2
      refine ⟨?_, ?_⟩
      · first | exact R'.out | ((repeat apply Exists.intro); refine ⟨?_, rfl⟩; exact R'.out)
      · simp [intOf]
    · have hcg := growI_any Y.length (by omega) (by omega) w
      have hs2 : ((szI 0 Y.length 2 : Nat) : Int) = (Y.length : Int) := by simp [szI]
      rw [hs2]
      go_wp2_with (go_at_call 61; refine hcg.mono ?_; rintro e W1 ⟨v1, rfl, hown, hB1⟩)
      have H1 := Lib.hid (And.intro hown hB1)
      clear hown hB1 hcg hs2
      go_loopw [6, 27] (fun v i wr => CI2 w [] Y v i wr) (fun _ i _ => 2 - (intOf i).toNat)
      case atStart => exact ⟨0, Nat.zero_le _, rfl, H1.out.1, H1.out.2⟩
      case round =>
        obtain ⟨k, hk, rfl, ho, hB⟩ := hrel
        obtain rfl | rfl | rfl : k = 0 ∨ k = 1 ∨ k = 2 := by omega
        · have e0 := (hB.cell (p := ⟨bs, 0, none⟩) hbs).trans c0
          have HO : Hid (wr.ownsRow w.heap.size 3 1 u6 0 [] ∧ Below w.heap.size w wr) := ⟨ho, hB⟩
          clear ho hB
          go_wp2_with (at_builtin; refine wpList_append_own_none rfl (.tmp 31) (.tmp 32) 47 rfl w.heap.size 3 i0 1 Tryz.underlying47 hi0 u6 0 [] rfl HO.out.1 rfl ?_; refine Hid.out ?_)
          refine Lib.hid ?_
          have HRR : Hid (CI2 w [] Y u6 (.int .i64 1) wr) := ⟨1, by omega, rfl, HO.out.1, HO.out.2⟩
          go_wp2
          refine ⟨?_, ?_⟩
          · first | exact HRR.out | ((repeat apply Exists.intro); refine ⟨?_, rfl⟩; exact HRR.out)
          · simp [intOf]
        · have e0 := (hB.cell (p := ⟨bs, 1, none⟩) hbs).trans c1
          have hn : ∀ j u, (cellsI Y)[j]? = some u → wr.cell? ((⟨b2, 0, none⟩ : Addr).add j) = some u := fun j u hu => (hB.cell (by rw [Addr.add_lit]; exact h2)).trans (HA.out j u hu)
          have HO : Hid (wr.ownsRow w.heap.size 3 1 u6 0 [] ∧ Below w.heap.size w wr ∧ ∀ j u, (cellsI Y)[j]? = some u → wr.cell? ((⟨b2, 0, none⟩ : Addr).add j) = some u) := ⟨ho, hB, hn⟩
          clear ho hB hn
          go_wp2_with (at_builtin; refine wpList_append_own _ rfl (.tmp 31) (.tmp 32) 47 rfl w.heap.size 3 i0 _ 1 8 Tryz.underlying47 hi0 hz0 hz1 hz2 rfl (by decide) u6 0 [] rfl HO.out.1 ⟨b2, 0, none⟩ Y.length cb (cellsI Y) rfl (by simp [cellsI]) HO.out.2.2 (by intro u hu; simp [cellsI] at hu; obtain ⟨x, _, rfl⟩ := hu; rfl) (by unfold maxLen; omega) (by omega) HO.out.2.1.size ?_; intro v1 w1 hown1 hgrow1 _; refine Hid.out ?_)
          refine Lib.hid ?_
          have HRR : Hid (CI2 w [] Y v1 (.int .i64 2) w1) := by
            refine ⟨2, by omega, rfl, ?_, HO.out.2.1.grown hgrow1 HO.out.2.1.size (fun k hk => (HO.out.1.lt k hk).1)⟩
            have : partI [] Y 2 = Y := rfl
            rw [this]
            simpa using hown1
          clear hown1
          go_wp2
          refine ⟨?_, ?_⟩
          · first | exact HRR.out | ((repeat apply Exists.intro); refine ⟨?_, rfl⟩; exact HRR.out)
          · simp [intOf]
        · have HO : Hid (wr.ownsRow w.heap.size 3 1 u6 Y.length (cellsI Y) ∧ Below w.heap.size w wr) := ⟨ho, hB⟩
          clear ho hB
          go_wp2
          go_ret
          exact ⟨_, rfl, HO.out.1, HO.out.2⟩

/-- The world ahead of Concat. -/
abbrev wCat (W : World) (u : Value) (x : Int) : World := (W.alloc (.cells #[.int .i64 x] 3)).alloc (.cells #[u, .slice (some ⟨W.heap.size, 0, none⟩) 1 1] 47)
theorem concatI_any {W : World} {u : Value} {r : List Int} (h : IsI W u r) (hr : r.length ≤ 7) (x : Int) :
    Calls Tryz.prog 32 #[.slice (some ⟨W.heap.size + 1, 0, none⟩) 2 2] (wCat W u x) fun e w' => ∃ a c, e = .returned (.slice a (r.length + 1) c) ∧ w'.ownsRow (wCat W u x).heap.size 3 1 (.slice a (r.length + 1) c) (r ++ [x]).length (cellsI (r ++ [x])) ∧ Below (wCat W u x).heap.size (wCat W u x) w' := by
  have hB : Below W.heap.size W (wCat W u x) := b_alloc (b_alloc (Below.refl _ _) _) _
  have n1 : (wCat W u x).heap[W.heap.size]? = some (.cells #[.int .i64 x] 3 (0, 0)) := (heap_alloc_old _ _ (by simp)).trans (heap_alloc_new W _)
  have n2 : (wCat W u x).heap[W.heap.size + 1]? = some (.cells #[u, .slice (some ⟨W.heap.size, 0, none⟩) 1 1] 47 (0, 0)) := by
    have := heap_alloc_new (W.alloc (.cells #[.int .i64 x] 3)) (.cells #[u, .slice (some ⟨W.heap.size, 0, none⟩) 1 1] 47)
    rw [World.size_alloc] at this; exact this
  have c0 : (wCat W u x).cell? ⟨W.heap.size + 1, 0, none⟩ = some u := cell_at n2 rfl
  have c1 : (wCat W u x).cell? ⟨W.heap.size + 1, 1, none⟩ = some (.slice (some ⟨W.heap.size, 0, none⟩) [x].length 1) := cell_at n2 rfl
  have hC : ∀ j u', (cellsI [x])[j]? = some u' → (wCat W u x).cell? ((⟨W.heap.size, 0, none⟩ : Addr).add j) = some u' := fun j u' hu => by
    have hj : j < 1 := (List.getElem?_eq_some_iff.1 hu).1
    obtain rfl : j = 0 := by omega
    obtain rfl : .int .i64 x = u' := by simpa [cellsI] using hu
    rw [Addr.add_lit]
    exact cell_at n1 rfl
  have hs : (wCat W u x).heap.size = W.heap.size + 1 + 1 := by simp [wCat]
  rcases h.on hB with ⟨rfl, rfl⟩ | ⟨b, cap, rfl, _, hb, hl⟩
  · refine (concatI_nil (W.heap.size + 1) W.heap.size 1 [x] _ (by simp) (by simp) (by rw [hs]; omega) (by rw [hs]; omega) c0 c1 hC).mono ?_
    rintro e w' ⟨v, rfl, ho, hB'⟩
    obtain ⟨ao, cp, rfl⟩ := own_slice ho
    exact ⟨ao, cp, rfl, ho, hB'⟩
  · refine (concatI_two (W.heap.size + 1) b W.heap.size cap 1 r [x] _ (by omega) (by simp) (by simp) (by rw [hs]; omega) hb (by rw [hs]; omega) c0 c1 (cellsI_at hl) hC).mono ?_
    rintro e w' ⟨v, rfl, ho, hB'⟩
    obtain ⟨ao, cp, rfl⟩ := own_slice ho
    have el : (r ++ [x]).length = r.length + 1 := by simp
    rw [el] at ho ⊢
    exact ⟨ao, cp, rfl, ho, hB'⟩

/-- The rows of integers that lie behind a list of slices. -/
def Inner (w : World) (base : Nat) (us : List Value) (R : List (List Int)) : Prop := us.length = R.length ∧ ∀ (k : Nat) u r, us[k]? = some u → R[k]? = some r → w.ownsRow base 3 1 u r.length (cellsI r)
/-- Rows of the call's own. -/
def OwnRows (w : World) (base : Nat) (v : Value) (R : List (List Int)) : Prop := ∃ us, w.ownsRow base 47 1 v R.length us ∧ Inner w base us R
/-- Rows as they are read. -/
def IsRw (w : World) (v : Value) (R : List (List Int)) : Prop :=
  (v = .slice none 0 0 ∧ R = []) ∨ ∃ b cap, v = .slice (some ⟨b, 0, none⟩) R.length cap ∧ b < w.heap.size ∧ ∀ (k : Nat) r, R[k]? = some r → ∃ u, w.cell? ⟨b, k, none⟩ = some u ∧ IsI w u r
theorem Inner.kt {w w' : World} {base : Nat} {us : List Value} {R : List (List Int)} (h : Inner w base us R) (hk : Kt 3 w w') : Inner w' base us R := ⟨h.1, fun k u r hu hr => own_kt (h.2 k u r hu hr) hk⟩
theorem Inner.snoc {w : World} {base : Nat} {us : List Value} {R : List (List Int)} (h : Inner w base us R) {u : Value} {r : List Int} (hu : w.ownsRow base 3 1 u r.length (cellsI r)) : Inner w base (us ++ [u]) (R ++ [r]) := by
  refine ⟨by simp [h.1], fun k u' r' h1 h2 => ?_⟩
  by_cases hk : k < us.length
  · rw [List.getElem?_append_left hk] at h1
    rw [List.getElem?_append_left (by rw [← h.1]; exact hk)] at h2
    exact h.2 k u' r' h1 h2
  · rw [List.getElem?_append_right (by omega)] at h1
    rw [List.getElem?_append_right (by rw [← h.1]; omega), ← h.1] at h2
    obtain ⟨e1, e2⟩ : k - us.length = 0 ∧ u = u' := by
      have := (List.getElem?_eq_some_iff.1 h1).1
      simp at this
      rw [this] at h1
      exact ⟨this, by simpa using h1⟩
    rw [e1] at h2
    obtain rfl : r = r' := by simpa using h2
    rw [← e2]
    exact hu
theorem OwnRows.on {w w' : World} {base : Nat} {v : Value} {R : List (List Int)} (h : OwnRows w base v R) (hB : Below w.heap.size w w') : OwnRows w' base v R := by
  obtain ⟨us, h1, h2⟩ := h
  exact ⟨us, own_kt h1 (.of_below hB), h2.kt (.of_below hB)⟩
theorem OwnRows.base {w : World} {base base' : Nat} {v : Value} {R : List (List Int)} (h : OwnRows w base v R) (hb : base' ≤ base) : OwnRows w base' v R := by
  obtain ⟨us, h1, h2⟩ := h
  exact ⟨us, own_base h1 hb, h2.1, fun k u r hu hr => own_base (h2.2 k u r hu hr) hb⟩
theorem OwnRows.isRw {w : World} {base : Nat} {v : Value} {R : List (List Int)} (h : OwnRows w base v R) : IsRw w v R := by
  obtain ⟨us, h1, h2, h3⟩ := h
  have hc : ∀ g, v.ownBlock = some g → ∀ j u, us[j]? = some u → w.cell? ((⟨g, 0, none⟩ : Addr).add j) = some u := fun g hg => h1.cells hg
  rcases h1.2 with ⟨rfl, h0⟩ | ⟨g, cap, cur, rfl, hb, hg, hle, hcm, hcs, ht⟩
  · exact .inl ⟨rfl, List.eq_nil_of_length_eq_zero h0⟩
  · refine .inr ⟨g, cap, rfl, (Array.getElem?_eq_some_iff.1 hg).1, fun k r hr => ?_⟩
    have hk : k < us.length := by rw [h2]; exact (List.getElem?_eq_some_iff.1 hr).1
    have hu : us[k]? = some us[k] := by simp [hk]
    have d0 := hc g rfl k _ hu
    rw [Addr.add_lit, Nat.zero_add] at d0
    exact ⟨_, d0, own_isI (h3 k _ r hu hr)⟩
theorem IsRw.on {w w' : World} {v : Value} {R : List (List Int)} (h : IsRw w v R) (hB : Below w.heap.size w w') : IsRw w' v R := by
  rcases h with h | ⟨b, cap, rfl, hb, hl⟩
  · exact .inl h
  · refine .inr ⟨b, cap, rfl, Nat.lt_of_lt_of_le hb hB.size, fun k r hr => ?_⟩
    obtain ⟨u, hu, hI⟩ := hl k r hr
    exact ⟨u, (hB.cell hb).trans hu, hI.on hB⟩
theorem IsRw.sl {w : World} {v : Value} {R : List (List Int)} (h : IsRw w v R) : ∃ ao c, v = .slice ao R.length c := by
  rcases h with ⟨rfl, rfl⟩ | ⟨b, cap, rfl, _⟩
  · exact ⟨_, _, rfl⟩
  · exact ⟨_, _, rfl⟩
theorem info47 : (Tryz.prog.info? 47).map (fun i => (i.zero, i.size, i.bytes)) = some (some (.slice none 0 0), 1, 24) := by kernel_rfl
/-- How far the rows have come. -/
def lngP (T : List Te) (p : Sp) (I : List Int) (R : List (List Int)) (k : Nat) (r : List Int) (m : Nat) : List (List Int) := lngr T p I (R.take k) ++ ((I.take m).filter (leadB T p r)).map fun i => r ++ [i]
theorem lngP_yes {T : List Te} {p : Sp} {I : List Int} {R : List (List Int)} {k m : Nat} {r : List Int} {x : Int} (hx : I[m]? = some x) (h : leadB T p r x = true) : lngP T p I R k r (m + 1) = lngP T p I R k r m ++ [r ++ [x]] := by
  unfold lngP; rw [takeK hx, List.filter_append, List.map_append, ← List.append_assoc]; simp [h]
theorem lngP_no {T : List Te} {p : Sp} {I : List Int} {R : List (List Int)} {k m : Nat} {r : List Int} {x : Int} (hx : I[m]? = some x) (h : leadB T p r x = false) : lngP T p I R k r (m + 1) = lngP T p I R k r m := by
  unfold lngP; rw [takeK hx, List.filter_append, List.map_append]; simp [h]
theorem lngP_end {T : List Te} {p : Sp} {I : List Int} {R : List (List Int)} {k : Nat} {r : List Int} (hr : R[k]? = some r) : lngP T p I R k r I.length = lngr T p I (R.take (k + 1)) := by
  unfold lngP lngr; rw [takeK hr, List.flatMap_append, List.take_length]; simp
theorem lngr_len (T : List Te) (p : Sp) (I : List Int) : ∀ R : List (List Int), (lngr T p I R).length ≤ R.length * I.length
  | [] => by simp [lngr]
  | r :: R => by
    have ih := lngr_len T p I R
    have h1 := List.length_filter_le (leadB T p r) I
    have e : lngr T p I (r :: R) = ((I.filter (leadB T p r)).map fun i => r ++ [i]) ++ lngr T p I R := by simp [lngr]
    rw [e, List.length_append, List.length_map, List.length_cons, Nat.succ_mul]
    omega
theorem lngP_len {T : List Te} {p : Sp} {I : List Int} {R : List (List Int)} {k m : Nat} {r : List Int} (hR : R.length ≤ 200) (hI : I.length ≤ 60) : (lngP T p I R k r m).length ≤ 13000 := by
  unfold lngP
  have h1 := lngr_len T p I (R.take k)
  have h2 := List.length_filter_le (leadB T p r) (I.take m)
  have h3 : (R.take k).length ≤ 200 := by rw [List.length_take]; omega
  have h4 : (I.take m).length ≤ 60 := by rw [List.length_take]; omega
  have h5 : (R.take k).length * I.length ≤ 200 * 60 := Nat.mul_le_mul h3 hI
  rw [List.length_append, List.length_map]
  omega
/-- Where the loops stand. -/
def LgO (T : List Te) (p : Sp) (I : List Int) (R : List (List Int)) (w : World) (v i : Value) (wr : World) : Prop := ∃ k : Nat, k ≤ R.length ∧ i = .int .i64 k ∧ OwnRows wr w.heap.size v (lngr T p I (R.take k)) ∧ Below w.heap.size w wr
def LgI (T : List Te) (p : Sp) (I : List Int) (R : List (List Int)) (k : Nat) (r : List Int) (w : World) (v i : Value) (wr : World) : Prop := ∃ m : Nat, m ≤ I.length ∧ i = .int .i64 m ∧ OwnRows wr w.heap.size v (lngP T p I R k r m) ∧ Below w.heap.size w wr
theorem lgI_push {T : List Te} {p : Sp} {I : List Int} {R : List (List Int)} {k m : Nat} {r : List Int} {x : Int} {w W3 w1 : World} {us : List Value} {v v1 u : Value} {o : Obj} (hx : I[m]? = some x) (hl : leadB T p r x = true) (hm : m < I.length) (hB : Below w.heap.size w (W3.alloc o))
    (ho : (W3.alloc o).ownsRow w.heap.size 47 1 v (lngP T p I R k r m).length us) (hi : Inner (W3.alloc o) w.heap.size us (lngP T p I R k r m)) (hu : (W3.alloc o).ownsRow w.heap.size 3 1 u (r ++ [x]).length (cellsI (r ++ [x])))
    (hown : w1.ownsRow w.heap.size 47 1 v1 ((lngP T p I R k r m).length + 1) (us ++ [u])) (hg : (W3.alloc o).grownBy w1 v.ownBlock) : LgI T p I R k r w v1 (.int .i64 ((m + 1 : Nat) : Int)) w1 := by
  have hk : Kt 3 (W3.alloc o) w1 := .of_own ho (by decide) hg
  refine ⟨m + 1, hm, rfl, ⟨us ++ [u], ?_, ?_⟩, hB.grown hg hB.size (fun k hk => (ho.lt k hk).1)⟩
  · rw [lngP_yes hx hl, List.length_append]; exact hown
  · rw [lngP_yes hx hl]; exact (hi.kt hk).snoc (own_kt hu hk)

set_option maxHeartbeats 16000000 in
set_option maxRecDepth 100000 in
theorem longer_any {vr vi : Value} {R : List (List Int)} {I : List Int} {T : List Te} (p : Sp) (g q : Nat) {w : World} (hR : IsRw w vr R) (hI : IsI w vi I) (lR : R.length ≤ 200) (lI : I.length ≤ 60) (l6 : ∀ r ∈ R, r.length ≤ 6)
    (hC : ∀ W a b, Below w.heap.size w W → Calls Tryz.prog 17 #[.int .i64 a, .int .i64 b, .pointer (some ⟨g, 0, none⟩), .pointer (some ⟨q, 0, none⟩)] W fun e w' => e = .returned (.bool (tiedB T p a b)) ∧ Below W.heap.size W w') :
    Calls Tryz.prog 15 #[vr, vi, .func (.func 17) #[] #[.pointer (some ⟨g, 0, none⟩), .pointer (some ⟨q, 0, none⟩)]] w fun e w' => ∃ v, e = .returned v ∧ OwnRows w' w.heap.size v (lngr T p I R) ∧ Below w.heap.size w w' := by
  obtain ⟨i0, hi0, hz0, hz1, hz2⟩ := info_parts info47
  have HR : Hid (IsRw w vr R ∧ IsI w vi I ∧ (∀ r ∈ R, r.length ≤ 6)) := ⟨hR, hI, l6⟩
  have HC : Hid (∀ W a b, Below w.heap.size w W → Calls Tryz.prog 17 #[.int .i64 a, .int .i64 b, .pointer (some ⟨g, 0, none⟩), .pointer (some ⟨q, 0, none⟩)] W fun e w' => e = .returned (.bool (tiedB T p a b)) ∧ Below W.heap.size W w') := hC
  obtain ⟨ar, cr, rfl⟩ := hR.sl
  obtain ⟨ai, ci, rfl⟩ := hI.sl
  clear hR hI hC l6
  go_enter Tryz.func15, Tryz.ntmps15
  go_wp2
  go_loopw [7, 14] (fun v i wr => LgO T p I R w v i wr) (fun _ i _ => R.length - (intOf i).toNat)
  case atStart => exact ⟨0, Nat.zero_le _, rfl, ⟨[], World.ownsRow_nil _ _ _ _, by simp [Inner, lngr]⟩, Below.refl _ _⟩
  case round =>
    obtain ⟨k, hk, rfl, hO, hB⟩ := hrel
    by_cases hlt : k < R.length
    · obtain ⟨r, hr⟩ : ∃ r, R[k]? = some r := ⟨R[k], by simp [hlt]⟩
      rcases HR.out.1 with ⟨_, h0⟩ | ⟨br, cap, hve, hbr, hcl⟩
      · rw [h0] at hlt; exact absurd hlt (by simp)
      obtain ⟨ha2, hc2⟩ : ar = some ⟨br, 0, none⟩ ∧ cr = cap := by injection hve with q1 q2 q3; exact ⟨q1, q3⟩
      subst ha2 hc2
      obtain ⟨u, hu, hIu⟩ := hcl k r hr
      have d0 := (hB.cell (p := ⟨br, k, none⟩) hbr).trans hu
      have HU : Hid (IsI w u r) := hIu
      obtain ⟨au, cu, hus⟩ := hIu.sl
      rw [hus] at d0 HU
      have hr6 : r.length ≤ 6 := HR.out.2.2 r (List.mem_of_getElem? hr)
      have HX : Hid (R[k]? = some r) := hr
      have HO : Hid (OwnRows wr w.heap.size u7 (lngr T p I (R.take k)) ∧ Below w.heap.size w wr) := ⟨hO, hB⟩
      clear hve hcl hu hIu hus hr hO hB
      obtain ⟨WR, hWR⟩ : ∃ W, W = wr := ⟨wr, rfl⟩
      subst hWR
      go_wp2
      go_loopw [7, 20] (fun v i wr => LgI T p I R k r w v i wr) (fun _ i _ => I.length - (intOf i).toNat)
      case atStart => exact ⟨0, Nat.zero_le _, rfl, by simpa [lngP] using HO.out.1, HO.out.2⟩
      case round =>
        obtain ⟨m, hm, rfl, hO, hB⟩ := hrel
        by_cases hml : m < I.length
        · obtain ⟨x, hx⟩ : ∃ x, I[m]? = some x := ⟨I[m], by simp [hml]⟩
          rcases HR.out.2.1 with ⟨_, h0⟩ | ⟨bi, cap, hve, _, hbi, hcl⟩
          · rw [h0] at hml; exact absurd hml (by simp)
          obtain ⟨ha3, hc3⟩ : ai = some ⟨bi, 0, none⟩ ∧ ci = cap := by injection hve with q1 q2 q3; exact ⟨q1, q3⟩
          subst ha3 hc3
          have d1 := (hB.cell (p := ⟨bi, m, none⟩) hbi).trans (hcl m x hx)
          have HXI : Hid (I[m]? = some x) := hx
          have hm60 : m < 60 := by omega
          have HLN : Hid ((lngP T p I R k r m).length ≤ 13000) := lngP_len lR lI
          clear hve hcl hx
          by_cases hr0 : r = []
          · have HL : Hid (leadB T p r x = true) := by show _ = _; unfold leadB; rw [hr0]; rfl
            have HO2 : Hid (OwnRows wr w.heap.size u7 (lngP T p I R k r m) ∧ Below w.heap.size w wr) := ⟨hO, hB⟩
            have hrl : ((r.length : Int) == 0) = true := by rw [hr0]; rfl
            have cK := concatI_any (HU.out.on hB) (by omega) x
            clear hr0 hO hB
            go_wp2_with (first | (go_at_call 32; refine cK.mono ?_; rintro e W3 ⟨a3, c3, rfl, hw3, hB3⟩; refine Hid.out ?_))
            refine Lib.hid ?_
            obtain ⟨us, hu1, hu2⟩ := HO2.out.1
            have hBx : Below wr.heap.size wr W3 := on1K (b_alloc (b_alloc (Below.refl _ _) _) _) hB3 (Nat.le_refl _)
            have hB4 : Below wr.heap.size wr (W3.alloc (.cells #[.slice a3 (r.length + 1) c3] 47)) := b_alloc hBx _
            have hBw4 : Below w.heap.size w (W3.alloc (.cells #[.slice a3 (r.length + 1) c3] 47)) := on1K HO2.out.2 hB4 (Nat.le_refl _)
            have HH : Hid ((W3.alloc (.cells #[.slice a3 (r.length + 1) c3] 47)).ownsRow w.heap.size 47 1 u7 (lngP T p I R k r m).length us ∧ Inner (W3.alloc (.cells #[.slice a3 (r.length + 1) c3] 47)) w.heap.size us (lngP T p I R k r m) ∧ (W3.alloc (.cells #[.slice a3 (r.length + 1) c3] 47)).ownsRow w.heap.size 3 1 (.slice a3 (r.length + 1) c3) (r ++ [x]).length (cellsI (r ++ [x])) ∧ Below w.heap.size w (W3.alloc (.cells #[.slice a3 (r.length + 1) c3] 47))) :=
              ⟨own_kt hu1 (.of_below hB4), hu2.kt (.of_below hB4), (own_base hw3 (Nat.le_trans HO2.out.2.size (by simp [wCat]; omega))).alloc _, hBw4⟩
            have HL2 : Hid ((lngP T p I R k r m).length + 1 ≤ maxLen ∧ ((lngP T p I R k r m).length + 1) * 24 ≤ 140737488355328) := by
              have := HLN.out
              unfold maxLen; exact ⟨by omega, by omega⟩
            clear hu1 hu2 hBx hB4 hBw4 hw3 hB3 cK
            go_wp2_with (at_builtin; refine wpList_append_own _ rfl (.tmp 38) (.tmp 44) 39 rfl w.heap.size 47 i0 _ 1 24 Tryz.underlying39 hi0 hz0 hz1 hz2 rfl (by decide) u7 (lngP T p I R k r m).length us rfl HH.out.1 ⟨W3.heap.size, 0, none⟩ 1 1 [.slice a3 (r.length + 1) c3] rfl rfl (new_at _ _ _) (by simp [Value.oneCell']) HL2.out.1 HL2.out.2 HH.out.2.2.2.size ?_; intro v1 w1 hown1 hgrow1 _; refine Hid.out ?_)
            refine Lib.hid ?_
            have HRR : Hid (LgI T p I R k r w v1 (.int .i64 ((m + 1 : Nat) : Int)) w1) := lgI_push HXI.out HL.out hml HH.out.2.2.2 HH.out.1 HH.out.2.1 HH.out.2.2.1 hown1 hgrow1
            clear hown1 hgrow1
            go_wp2
            refine ⟨?_, ?_⟩
            · first | exact HRR.out | ((repeat apply Exists.intro); refine ⟨?_, rfl⟩; exact HRR.out)
            · simp [intOf]
              try omega
          · obtain ⟨n, hn⟩ : ∃ n, r.length = n + 1 := ⟨r.length - 1, by have := List.length_pos_iff.2 hr0; omega⟩
            have hrl : ((r.length : Int) == 0) = false := by rw [hn]; simp; omega
            obtain ⟨y, hy⟩ : ∃ y, r[n]? = some y := ⟨r[n]'(by omega), by simp⟩
            have hyl : lastI r = y := by unfold lastI; rw [List.getLast?_eq_getElem?, hn, Nat.add_sub_cancel, hy]; rfl
            obtain ⟨bu, hau, hbu, hcu⟩ : ∃ bu, au = some ⟨bu, 0, none⟩ ∧ bu < w.heap.size ∧ w.cell? ⟨bu, n, none⟩ = some (.int .i64 y) := by
              rcases HU.out with ⟨_, e⟩ | ⟨b, c', e, _, hb, hl⟩
              · exact absurd e hr0
              · injection e with q1 _ _
                exact ⟨b, q1, hb, hl n y hy⟩
            subst hau
            have d2 := (hB.cell (p := ⟨bu, n, none⟩) hbu).trans hcu
            have cL := HC.out wr y x hB
            have hlb : leadB T p r x = tiedB T p y x := by
              unfold leadB; rw [hyl]
              have : r.isEmpty = false := by simpa using hr0
              rw [this]; rfl
            have HO2 : Hid (OwnRows wr w.heap.size u7 (lngP T p I R k r m) ∧ Below w.heap.size w wr) := ⟨hO, hB⟩
            have hnl : n < r.length := by omega
            have hsub : (r.length : Int) - 1 = (n : Int) := by omega
            clear hy hyl hcu hr0 hO hB hn
            by_cases ht : tiedB T p y x = true
            · have HL : Hid (leadB T p r x = true) := by show _ = _; rw [hlb]; exact ht
              rw [ht] at cL
              clear ht hlb
              go_wp2_with (first | (go_at_call 17; refine cL.mono ?_; rintro e Wc ⟨rfl, hBc⟩; have cK := concatI_any (HU.out.on (on1K HO2.out.2 hBc (Nat.le_refl _))) (by omega) x; have HO3 := Lib.hid (And.intro (HO2.out.1.on hBc) (on1K HO2.out.2 hBc (Nat.le_refl _))); clear hBc) | (go_at_call 32; refine cK.mono ?_; rintro e W3 ⟨a3, c3, rfl, hw3, hB3⟩; refine Hid.out ?_))
              refine Lib.hid ?_
              obtain ⟨us, hu1, hu2⟩ := HO3.out.1
              have hBx : Below Wc.heap.size Wc W3 := on1K (b_alloc (b_alloc (Below.refl _ _) _) _) hB3 (Nat.le_refl _)
              have hB4 : Below Wc.heap.size Wc (W3.alloc (.cells #[.slice a3 (r.length + 1) c3] 47)) := b_alloc hBx _
              have hBw4 : Below w.heap.size w (W3.alloc (.cells #[.slice a3 (r.length + 1) c3] 47)) := on1K HO3.out.2 hB4 (Nat.le_refl _)
              have HH : Hid ((W3.alloc (.cells #[.slice a3 (r.length + 1) c3] 47)).ownsRow w.heap.size 47 1 u7 (lngP T p I R k r m).length us ∧ Inner (W3.alloc (.cells #[.slice a3 (r.length + 1) c3] 47)) w.heap.size us (lngP T p I R k r m) ∧ (W3.alloc (.cells #[.slice a3 (r.length + 1) c3] 47)).ownsRow w.heap.size 3 1 (.slice a3 (r.length + 1) c3) (r ++ [x]).length (cellsI (r ++ [x])) ∧ Below w.heap.size w (W3.alloc (.cells #[.slice a3 (r.length + 1) c3] 47))) :=
                ⟨own_kt hu1 (.of_below hB4), hu2.kt (.of_below hB4), (own_base hw3 (Nat.le_trans HO3.out.2.size (by simp [wCat]; omega))).alloc _, hBw4⟩
              have HL2 : Hid ((lngP T p I R k r m).length + 1 ≤ maxLen ∧ ((lngP T p I R k r m).length + 1) * 24 ≤ 140737488355328) := by
                have := HLN.out
                unfold maxLen; exact ⟨by omega, by omega⟩
              clear hu1 hu2 hBx hB4 hBw4 hw3 hB3 cK
              go_wp2_with (at_builtin; refine wpList_append_own _ rfl (.tmp 38) (.tmp 44) 39 rfl w.heap.size 47 i0 _ 1 24 Tryz.underlying39 hi0 hz0 hz1 hz2 rfl (by decide) u7 (lngP T p I R k r m).length us rfl HH.out.1 ⟨W3.heap.size, 0, none⟩ 1 1 [.slice a3 (r.length + 1) c3] rfl rfl (new_at _ _ _) (by simp [Value.oneCell']) HL2.out.1 HL2.out.2 HH.out.2.2.2.size ?_; intro v1 w1 hown1 hgrow1 _; refine Hid.out ?_)
              refine Lib.hid ?_
              have HRR : Hid (LgI T p I R k r w v1 (.int .i64 ((m + 1 : Nat) : Int)) w1) := lgI_push HXI.out HL.out hml HH.out.2.2.2 HH.out.1 HH.out.2.1 HH.out.2.2.1 hown1 hgrow1
              clear hown1 hgrow1
              go_wp2
              refine ⟨?_, ?_⟩
              · first | exact HRR.out | ((repeat apply Exists.intro); refine ⟨?_, rfl⟩; exact HRR.out)
              · simp [intOf]
                try omega
            · have ht' : tiedB T p y x = false := by simpa using ht
              have HL : Hid (leadB T p r x = false) := by show _ = _; rw [hlb]; exact ht'
              rw [ht'] at cL
              clear ht ht' hlb
              go_wp2_with (first | (go_at_call 17; refine cL.mono ?_; rintro e Wc ⟨rfl, hBc⟩; have HO3 := Lib.hid (And.intro (HO2.out.1.on hBc) (on1K HO2.out.2 hBc (Nat.le_refl _))); clear hBc))
              have HRR : Hid (LgI T p I R k r w u7 (.int .i64 ((m + 1 : Nat) : Int)) Wc) := ⟨m + 1, hml, rfl, by rw [lngP_no HXI.out HL.out]; exact HO3.out.1, HO3.out.2⟩
              refine ⟨?_, ?_⟩
              · first | exact HRR.out | ((repeat apply Exists.intro); refine ⟨?_, rfl⟩; exact HRR.out)
              · simp [intOf]
                try omega
        · have hme : m = I.length := by omega
          have HRR : Hid (LgO T p I R w u7 (.int .i64 ((k + 1 : Nat) : Int)) wr) := ⟨k + 1, hlt, rfl, by rw [← lngP_end HX.out, ← hme]; exact hO, hB⟩
          clear hO hB hme
          go_wp2
          refine ⟨?_, ?_⟩
          · first | exact HRR.out | ((repeat apply Exists.intro); refine ⟨?_, rfl⟩; exact HRR.out)
          · simp [intOf]
            try omega
    · have hke : R.take k = R := List.take_of_length_le (by omega)
      rw [hke] at hO
      have HE : Hid (OwnRows wr w.heap.size u7 (lngr T p I R) ∧ Below w.heap.size w wr) := ⟨hO, hB⟩
      clear hO hB hke
      go_wp2
      go_ret
      exact ⟨_, rfl, HE.out.1, HE.out.2⟩
end Go.Proofs.YtifcpjimhhpcpaaGreatDoor
