/-
  The walk of what prints tests.
-/
import Derived.Test.YtmgkdghkenpmbaaGreatDoorAskP
namespace Go.Proofs.YtmgkdghkenpmbaaGreatDoor
open Go.RowKit
set_option linter.unusedVariables false
set_option linter.unusedSimpArgs false

theorem info9 : (Tryz.prog.info? 9).map (fun i => (i.zero, i.size, i.bytes)) = some (some (.string ⟨#[]⟩), 1, 16) := by kernel_rfl
theorem cell_new1 (w0 : World) (v : Value) : ∀ j u, [v][j]? = some u → (w0.alloc (.cells #[v] 9)).cell? ((⟨w0.heap.size, 0, none⟩ : Addr).add j) = some u := by
  intro j u hu
  match j, hu with
  | 0, hu => simp at hu; subst hu; simp [Addr.add]
  | k + 1, hu => simp at hu
theorem cell_one1 (x : ByteArray) : ∀ u ∈ [Value.string x], u.oneCell' = true := by
  intro u hu; simp at hu; subst hu; rfl
/-- Words, as cells. -/
def wcells (L : List Nm) : List Value := L.map fun x => .string (bs x)
theorem words_at {w : World} {base : Nat} {v : Value} {L : List Nm} (h : w.ownsRow base 9 1 v L.length (wcells L)) (hp : 0 < L.length) :
    ∃ g cp, v = .slice (some ⟨g, 0, none⟩) L.length cp ∧ (g < w.heap.size ∧ L.length ≤ cp) ∧ ∀ (j : Nat) (x : ByteArray), (L.map bs)[j]? = some x → w.cell? ⟨g, j, none⟩ = some (.string x) := by
  have hc : ∀ g, v.ownBlock = some g → ∀ j u, (wcells L)[j]? = some u → w.cell? ((⟨g, 0, none⟩ : Addr).add j) = some u := fun g hg => h.cells hg
  rcases h.2 with ⟨rfl, h0⟩ | ⟨g, cap, cur, rfl, hb, hg, hle, _⟩
  · omega
  · refine ⟨g, cap, rfl, ⟨(Array.getElem?_eq_some_iff.1 hg).1, hle⟩, fun j x hx => ?_⟩
    have := hc g rfl j (.string x) (by
      rw [List.getElem?_map] at hx
      obtain ⟨p, h1, h2⟩ := Option.map_eq_some_iff.1 hx
      unfold wcells
      rw [List.getElem?_map, h1, ← h2]; rfl)
    rw [Addr.add_lit, Nat.zero_add] at this
    exact this
theorem wcells_app (L M : List Nm) : wcells (L ++ M) = wcells L ++ wcells M := by simp [wcells]
theorem join_le (L : List Nm) (c m : Nat) (hm : ∀ w ∈ L, w.length ≤ m) : (Lib.join L [c.toUInt8]).length ≤ (m + 1) * L.length := by
  induction L with
  | nil => simp [Lib.join_nil]
  | cons a r ih =>
    have ha := hm a (by simp)
    rw [Lib.join_cons]
    have : ∀ r : List Nm, (∀ w ∈ r, w.length ≤ m) → (Lib.joinTail [c.toUInt8] r).length ≤ (m + 1) * r.length := by
      intro r hr
      induction r with
      | nil => simp [Lib.joinTail]
      | cons b q ihq =>
        have hb := hr b (by simp)
        have := ihq (fun w hw => hr w (by simp [hw]))
        simp only [Lib.joinTail, List.map_cons, List.flatten_cons, List.length_append, List.length_cons] at this ⊢
        rw [Nat.mul_add]; simp only [List.length_nil] at *; omega
    have := this r (fun w hw => hm w (by simp [hw]))
    simp only [List.length_append, List.length_cons]
    rw [Nat.mul_add]; omega
theorem own_on {w w0 : World} {base : Nat} {e : TypeId} {size : Nat} {v : Value} {n : Nat} {xs : List Value} (h : w.ownsRow base e size v n xs) (hB : Below w.heap.size w w0) : w0.ownsRow base e size v n xs := own_kt h (Kt.of_below hB)
/-- A join of words that the call made. -/
theorem joinB {w : World} {base : Nat} {v : Value} {L : List Nm} (h : w.ownsRow base 9 1 v L.length (wcells L)) (hp : 0 < L.length) (hL : L.length ≤ 1000) (c : UInt8) (hl : ∀ x ∈ L, x.length ≤ 100000) :
    Calls Tryz.prog 16 #[v, .string ⟨#[c]⟩] w fun e w' => e = .returned (.string (bs (Lib.join L [c]))) ∧ Below w.heap.size w w' := by
  obtain ⟨g, cp, rfl, hgl, hcells⟩ := words_at h hp
  have e1 : (L.map bs).map (·.data.toList) = L := by
    rw [List.map_map]
    have : ((fun x : ByteArray => x.data.toList) ∘ bs) = id := by funext a; simp
    rw [this, List.map_id]
  have := Tryz.strings_Join g 0 cp (L.map bs) ⟨#[c]⟩ w (fun j x hx => by rw [Nat.zero_add]; exact hcells j x hx) hgl.1 (by simp; omega) (by simp; exact hgl.2) (by
    rw [e1]
    have := join_le L c.toNat 100000 hl
    rw [show c.toNat.toUInt8 = c from by simp] at this
    show (Lib.join L [c]).length ≤ _
    have h2 : (100000 + 1) * L.length ≤ (100000 + 1) * 1000 := Nat.mul_le_mul_left _ hL
    omega)
  rw [e1, List.length_map] at this
  exact this
/-- What stands between two rounds. -/
def PW (w : World) (L : List Tst) (ws i : Value) (wr : World) : Prop := ∃ k : Nat, k ≤ L.length ∧ i = .int .i64 k ∧ wr.ownsRow w.heap.size 9 1 ws k (wcells ((L.take k).map tstT)) ∧ Below w.heap.size w wr
theorem tsT_ne {L : List Tst} (h : ¬ L = []) : tsT L = 91 :: (Lib.join (L.map tstT) [44] ++ [93]) := by unfold tsT; rw [if_neg h]

set_option maxHeartbeats 4000000 in
set_option maxRecDepth 100000 in
theorem printTests_any {v : Value} {L : List Tst} {w : World} (h : IsTs w v L) (hx : ∀ x ∈ L, TstOk x ∧ x.s.length ≤ maxLen) (hl : L.length ≤ 8) (hT : Tab w) (hS : Sg w) :
    Calls Tryz.prog 15 #[v] w fun e w' => e = .returned (.string (bs (tsT L))) ∧ Below w.heap.size w w' := by
  obtain ⟨i0, hi0, hz0, hz1, hz2⟩ := info_parts info9
  obtain ⟨av, cv, rfl, hcells⟩ := h
  by_cases h0 : L = []
  · subst h0
    clear hcells
    rw [show tsT [] = [] from rfl]
    go_enter Tryz.func15, Tryz.ntmps15
    go_wp2
    go_ret
    exact ⟨rfl, Below.refl _ _⟩
  obtain ⟨b, off, rfl, hb, hL⟩ := hcells.resolve_left h0
  have hpos : 0 < L.length := List.length_pos_iff.2 h0
  have hl0 : ((L.length : Int) == 0) = false := by rw [beq_eq_false_iff_ne]; omega
  have hjl : (Lib.join (L.map tstT) [44]).length ≤ 52 * 8 := by
    have := join_le (L.map tstT) 44 51 (fun w hw => by
      obtain ⟨x, hxm, rfl⟩ := List.mem_map.1 hw
      exact tstT_len (hx x hxm).1)
    rw [List.length_map] at this
    exact Nat.le_trans this (Nat.mul_le_mul_left _ hl)
  obtain ⟨z1, H1, l1, k1⟩ := catX [91] (Lib.join (L.map tstT) [44]) (by decide) (by omega)
  obtain ⟨z2, H2, l2, k2⟩ := catX z1 [93] (by rw [l1]; simp; omega) (by decide)
  have HE : Hid (tsT L = z2) := by show _ = _; rw [tsT_ne h0, H2.out, H1.out]; simp
  rw [HE.out]
  rw [show bs [91] = ⟨#[91]⟩ from rfl] at k1
  rw [show bs [93] = ⟨#[93]⟩ from rfl] at k2
  have HK : Hid ((∀ x ∈ L, TstOk x ∧ x.s.length ≤ maxLen) ∧ Tab w ∧ Sg w ∧ LiesTs w b off L) := ⟨hx, hT, hS, hL⟩
  have HJ : Hid (∀ x ∈ L.map tstT, x.length ≤ 100000) := fun x hxm => by
    obtain ⟨y, hy, rfl⟩ := List.mem_map.1 hxm
    have := tstT_len (hx y hy).1
    omega
  clear hx hT hS hL h0 HE H1 H2 l1 l2 hjl hcells
  go_enter Tryz.func15, Tryz.ntmps15
  go_wp2
  go_loopw [3, 11] (fun ws i wr => PW w L ws i wr) (fun _ i _ => L.length - (intOf i).toNat)
  case atStart => exact ⟨0, Nat.zero_le _, rfl, World.ownsRow_nil _ _ _ _, Below.refl _ _⟩
  case round =>
    obtain ⟨k, hk, rfl, hown, hB⟩ := hrel
    have HO : Hid (wr.ownsRow w.heap.size 9 1 u3 k (wcells ((L.take k).map tstT))) := hown
    clear hown
    by_cases hlt : k < L.length
    · obtain ⟨x, hp⟩ : ∃ p, L[k]? = some p := ⟨L[k], by simp [hlt]⟩
      obtain ⟨d0, d1, d2, d3, d4⟩ := (HK.out.2.2.2.on hb hB) k x hp
      have hxk := HK.out.1 x (List.mem_of_getElem? hp)
      have HW : Hid (wcells ((L.take (k + 1)).map tstT) = wcells ((L.take k).map tstT) ++ [.string (bs (tstT x))]) := by
        show _ = _
        have hT1 : L.take (k + 1) = L.take k ++ [x] := by
          obtain ⟨hk', rfl⟩ := List.getElem?_eq_some_iff.1 hp
          exact List.take_succ_eq_append_getElem hk'
        rw [hT1, List.map_append, wcells_app]; rfl
      have hBA : Below w.heap.size w (wr.alloc (boxT x)) := b_alloc hB _
      have cp := printTest_any x (wr.alloc (boxT x)) hxk.1 hxk.2 (tabOn HK.out.2.1 hBA) (HK.out.2.2.1.on hBA)
      have HBA := Lib.hid hBA
      generalize tstT x = tx at cp HW
      clear hp hxk hBA
      go_wp2_with (go_at_call 27; refine cp.mono ?_; rintro e W1 ⟨rfl, hB1⟩; refine Hid.out ?_)
      refine Lib.hid ?_
      have hB2 := on1 HBA.out hB1
      have hbase := hB2.size
      have hown1 : Hid (W1.ownsRow w.heap.size 9 1 u3 k (wcells ((L.take k).map tstT))) := own_on (HO.out.alloc _) hB1
      have HM : Hid (k + 1 ≤ maxLen ∧ (k + 1) * 16 ≤ 140737488355328) := by unfold maxLen; exact ⟨by omega, by omega⟩
      clear cp hB1
      go_wp2_with (at_builtin; refine wpList_append_own _ rfl (.tmp 15) (.tmp 18) 49 rfl w.heap.size 9 i0 _ 1 16 Tryz.underlying49 hi0 hz0 hz1 hz2 rfl (by decide) u3 k (wcells ((L.take k).map tstT)) rfl (hown1.out.alloc _) ⟨W1.heap.size, 0, none⟩ 1 1 [.string (bs tx)] rfl rfl (cell_new1 W1 _) (cell_one1 _) HM.out.1 HM.out.2 (by simp; omega) ?_; intro v1 w1 hown2 hgrow _; refine Hid.out ?_)
      refine Lib.hid ?_
      rw [← HW.out] at hown2
      have R : PW w L v1 (.int .i64 ((k : Int) + 1)) w1 := ⟨k + 1, by omega, by go_num, hown2, below_grown (b_alloc hB2 _) hgrow (b_alloc hB2 _).size (fun j hj => (hown1.out.lt j hj).1)⟩
      clear hown2 hgrow
      go_wp2
      refine ⟨?_, ?_⟩
      · first
          | exact R
          | ((repeat apply Exists.intro)
             refine ⟨?_, rfl⟩
             exact R)
      · simp [intOf]; omega
    · obtain rfl : k = L.length := by omega
      have hown := HO.out
      rw [List.take_length] at hown
      have cj := joinB (L := L.map tstT) (by rw [List.length_map]; exact hown) (by simpa using hpos) (by simp; omega) 44 HJ.out
      clear hown HO
      generalize Lib.join (L.map tstT) [44] = jn at cj k1
      go_wp2_with (go_at_call 16; refine cj.mono ?_; rintro e W1 ⟨rfl, hB1⟩)
      go_ret
      exact ⟨rfl, on1 hB hB1⟩
end Go.Proofs.YtmgkdghkenpmbaaGreatDoor
