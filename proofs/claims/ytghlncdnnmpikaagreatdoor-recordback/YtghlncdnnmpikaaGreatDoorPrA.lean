/-
  The walk of record.Print.
-/
import Derived.Test.YtghlncdnnmpikaaGreatDoorRTextM
import Derived.Laws.Concat
import Derived.Lib.ItoaLen
namespace Go.Proofs.YtghlncdnnmpikaaGreatDoor
open Go.RowKit
set_option linter.unusedVariables false
set_option linter.unusedSimpArgs false

theorem cat (x y : List UInt8) (hx : x.length ≤ 8388608) (hy : y.length ≤ 8388608) (w : World) : (Op.stringOp .add ⟨x.toArray⟩ ⟨y.toArray⟩).run Tryz.prog w = .ok (.string ⟨(x ++ y).toArray⟩) w := run_string_add_lists w x y (by omega) (by omega)
theorem name_len {l : List UInt8} (h : nErr l = 0) : l.length ≤ 8 := by
  unfold nErr at h
  split at h
  · exact absurd h (by decide)
  · split at h
    · exact absurd h (by decide)
    · omega
theorem show_len {t n : Int} {l : List UInt8} (h : vErr t n l = 0) : (showL t n l).length ≤ 42 := by
  have ht : t = 1 ∨ t = 2 ∨ t = 3 := by
    unfold vErr at h; split at h
    · assumption
    · exact absurd h (by decide)
  have hr : inR t n = true := by
    unfold vErr at h; rw [if_pos ht] at h; split at h
    · assumption
    · exact absurd h (by decide)
  unfold showL
  rcases ht with rfl | rfl | rfl
  · rw [if_pos rfl]
    have hr' : -1000000 ≤ n ∧ n ≤ 1000000 := by simpa [inR] using hr
    have := Lib.itoa_length_le n (by omega) (by omega)
    omega
  · rw [if_neg (by decide), if_pos rfl]
    split <;> decide
  · rw [if_neg (by decide), if_neg (by decide)]
    have h20 : l.length ≤ 20 := by
      unfold vErr at h; rw [if_pos (by omega), if_pos hr, if_pos rfl] at h
      unfold tErr at h; split at h
      · exact absurd h (by decide)
      · omega
    have := dbl_len l
    simp [quo]; omega
theorem word_len {p : Pr} (h : p.ok) : (wordOf p).length ≤ 51 := by
  have h1 := name_len h.1
  have h2 := show_len h.2
  unfold wordOf; simp; omega
theorem info9 : (Tryz.prog.info? 9).map (fun i => (i.zero, i.size, i.bytes)) = some (some (.string ⟨#[]⟩), 1, 16) := by kernel_rfl
theorem cell_new1 (w0 : World) (v : Value) : ∀ j u, [v][j]? = some u → (w0.alloc (.cells #[v] 9)).cell? ((⟨w0.heap.size, 0, none⟩ : Addr).add j) = some u := by
  intro j u hu
  match j, hu with
  | 0, hu => simp at hu; subst hu; simp [Addr.add]
  | k + 1, hu => simp at hu
theorem cell_one1 (x : ByteArray) : ∀ u ∈ [Value.string x], u.oneCell' = true := by
  intro u hu; simp at hu; subst hu; rfl
/-- The words, as cells. -/
def wcells (L : List Pr) : List Value := L.map fun p => .string ⟨(wordOf p).toArray⟩
theorem words_at {w : World} {base : Nat} {v : Value} {L : List Pr} (h : w.ownsRow base 9 1 v L.length (wcells L)) (hp : 0 < L.length) :
    ∃ g cp, v = .slice (some ⟨g, 0, none⟩) L.length cp ∧ (g < w.heap.size ∧ L.length ≤ cp) ∧ ∀ (j : Nat) (x : ByteArray), (L.map fun p => (⟨(wordOf p).toArray⟩ : ByteArray))[j]? = some x → w.cell? ⟨g, j, none⟩ = some (.string x) := by
  have hc : ∀ g, v.ownBlock = some g → ∀ j u, (wcells L)[j]? = some u → w.cell? ((⟨g, 0, none⟩ : Addr).add j) = some u := fun g hg => h.cells hg
  rcases h.2 with ⟨rfl, h0⟩ | ⟨g, cap, cur, rfl, hb, hg, hle, _⟩
  · omega
  · refine ⟨g, cap, rfl, ⟨(Array.getElem?_eq_some_iff.1 hg).1, hle⟩, fun j x hx => ?_⟩
    have := hc g rfl j (.string x) (by
      rw [List.getElem?_map] at hx
      obtain ⟨p, h1, h2⟩ := Option.map_eq_some_iff.1 hx
      unfold wcells
      rw [List.getElem?_map, h1, ← h2]; rfl)
    rw [Addr.add_lit, Nat.zero_add] at this
    exact this
theorem wcells_len (L : List Pr) : (wcells L).length = L.length := by simp [wcells]
theorem joinW_eq (L : List (List UInt8)) : Lib.join L [44] = joinW L := by
  unfold Lib.join
  induction L with
  | nil => rfl
  | cons a r ih =>
    cases r with
    | nil => simp [joinW, List.intercalate]
    | cons b r =>
      show _ = a ++ 44 :: joinW (b :: r)
      rw [← ih]
      simp [List.intercalate, List.intersperse]
theorem joinW_len (L : List (List UInt8)) (h : ∀ w ∈ L, w.length ≤ 51) : (joinW L).length ≤ 52 * L.length := by
  induction L with
  | nil => simp [joinW]
  | cons a r ih =>
    have ha := h a (by simp)
    cases r with
    | nil => simp [joinW]; omega
    | cons b r =>
      have := ih (fun w hw => h w (by simp [hw]))
      show (a ++ 44 :: joinW (b :: r)).length ≤ _
      simp at this ⊢; omega
theorem own_al1 {w w0 : World} {base : Nat} {e : TypeId} {size : Nat} {v : Value} {n : Nat} {xs : List Value} (h : w.ownsRow base e size v n xs) (hB : ∀ k, base ≤ k → k < w.heap.size → w0.heap[k]? = w.heap[k]?) : w0.ownsRow base e size v n xs := by
  refine ⟨h.1, ?_⟩
  rcases h.2 with hn | ⟨g, cap, cur, hv, hb, hg, rest⟩
  · exact .inl hn
  · exact .inr ⟨g, cap, cur, hv, hb, by rw [hB g hb (Array.getElem?_eq_some_iff.1 hg).1]; exact hg, rest⟩
theorem own_on {w w0 : World} {base : Nat} {e : TypeId} {size : Nat} {v : Value} {n : Nat} {xs : List Value} (h : w.ownsRow base e size v n xs) (hB : Below w.heap.size w w0) : w0.ownsRow base e size v n xs :=
  own_al1 h (fun k _ hk => hB.block k hk)

/-- The cells of a block that was made just ahead, behind a call. -/
theorem kept4P {w W1 : World} {v0 v1 v2 v3 : Value} {t : TypeId} (hB : Below (w.alloc (.cells #[v0, v1, v2, v3] t)).heap.size (w.alloc (.cells #[v0, v1, v2, v3] t)) W1) :
    w.heap.size < W1.heap.size ∧ (W1.cell? ⟨w.heap.size, 0, none⟩ = some v0 ∧ W1.cell? ⟨w.heap.size, 1, none⟩ = some v1 ∧ W1.cell? ⟨w.heap.size, 2, none⟩ = some v2 ∧ W1.cell? ⟨w.heap.size, 3, none⟩ = some v3) ∧
      (W1.frozen? ⟨w.heap.size, 0, none⟩ = false ∧ W1.frozen? ⟨w.heap.size, 1, none⟩ = false ∧ W1.frozen? ⟨w.heap.size, 2, none⟩ = false ∧ W1.frozen? ⟨w.heap.size, 3, none⟩ = false) := by
  refine ⟨Nat.lt_of_lt_of_le (by simp) hB.size, ⟨?_, ?_, ?_, ?_⟩, ⟨?_, ?_, ?_, ?_⟩⟩
  · rw [hB.cell (p := ⟨w.heap.size, 0, none⟩) (by simp)]; simp
  · rw [hB.cell (p := ⟨w.heap.size, 1, none⟩) (by simp)]; simp
  · rw [hB.cell (p := ⟨w.heap.size, 2, none⟩) (by simp)]; simp
  · rw [hB.cell (p := ⟨w.heap.size, 3, none⟩) (by simp)]; simp
  · rw [hB.frozen (p := ⟨w.heap.size, 0, none⟩) (by simp)]; simp
  · rw [hB.frozen (p := ⟨w.heap.size, 1, none⟩) (by simp)]; simp
  · rw [hB.frozen (p := ⟨w.heap.size, 2, none⟩) (by simp)]; simp
  · rw [hB.frozen (p := ⟨w.heap.size, 3, none⟩) (by simp)]; simp

/-- What stands between two rounds. -/
def PW (w : World) (L : List Pr) (ws i : Value) (wr : World) : Prop := ∃ k : Nat, k ≤ L.length ∧ i = .int .i64 k ∧ wr.ownsRow w.heap.size 9 1 ws k (wcells (L.take k)) ∧ Below w.heap.size w wr
set_option maxHeartbeats 4000000 in
set_option maxRecDepth 100000 in
theorem rprint_some (b off cap : Nat) (L : List Pr) (w : World) (hb : b < w.heap.size) (hL : Lies w b off L) (hs : Sz L) (he : rErr L = 0) (hne : L ≠ []) (hT : Tab w) :
    Calls Tryz.prog 17 #[.slice (some ⟨b, off, none⟩) L.length cap] w fun e w' => e = .returned (.tuple #[.string ⟨(showR L).toArray⟩, .nilIface]) ∧ Below w.heap.size w w' := by
  obtain ⟨i0, hi0, hz0, hz1, hz2⟩ := info_parts info9
  have hn := rErr_len he
  have hok := rErr_ok he
  have hpos : 0 < L.length := List.length_pos_iff.2 hne
  have hl0 : ((L.length : Int) == 0) = false := by simp; omega
  have c1 : Calls Tryz.prog 7 #[.slice (some ⟨b, off, none⟩) L.length cap] w fun e w' => e = .returned .nilIface ∧ Below w.heap.size w w' := by
    have := rcheck_some b off cap L w hb hL hs hn
    have e0 : chk none L = 0 := by unfold rErr at he; rw [if_neg (by omega)] at he; exact he
    rw [e0] at this; exact this
  have HS : Hid (showR L = joinW (L.map wordOf)) := by
    show _ = _
    unfold showR; rw [if_neg hne]
  have HK : Hid ((∀ p ∈ L, p.ok) ∧ Sz L ∧ Tab w ∧ Lies w b off L) := ⟨hok, hs, hT, hL⟩
  clear hok hs hT hL he hne
  go_enter Tryz.func17, Tryz.ntmps17
  go_wp2_with (go_at_call 7; refine c1.mono ?_; rintro e W0 ⟨rfl, hB0⟩)
  go_loopw [5, 20] (fun ws i wr => PW w L ws i wr) (fun _ i _ => L.length - (intOf i).toNat)
  case atStart => exact ⟨0, Nat.zero_le _, rfl, World.ownsRow_nil _ _ _ _, hB0⟩
  case round =>
    obtain ⟨k, hk, rfl, hown, hB⟩ := hrel
    have HO : Hid (wr.ownsRow w.heap.size 9 1 u5 k (wcells (L.take k))) := hown
    clear hown
    by_cases hlt : k < L.length
    · obtain ⟨p, hp⟩ : ∃ p, L[k]? = some p := ⟨L[k], by simp [hlt]⟩
      obtain ⟨c0, c1', c2, c3⟩ := HK.out.2.2.2 k p hp
      have d0 := (hB.cell (p := ⟨b, off + k * 4, none⟩) hb).trans c0
      have d1 := (hB.cell (p := ⟨b, off + k * 4 + 1, none⟩) hb).trans c1'
      have d2 := (hB.cell (p := ⟨b, off + k * 4 + 2, none⟩) hb).trans c2
      have d3 := (hB.cell (p := ⟨b, off + k * 4 + 3, none⟩) hb).trans c3
      have hpok := HK.out.1 p (List.mem_of_getElem? hp)
      have hT1 : L.take (k + 1) = L.take k ++ [p] := by
        obtain ⟨hk', rfl⟩ := List.getElem?_eq_some_iff.1 hp
        exact List.take_succ_eq_append_getElem hk'
      have HW : Hid (wcells (L.take (k + 1)) = wcells (L.take k) ++ [.string ⟨(wordOf p).toArray⟩]) := by
        show _ = _
        rw [hT1]; simp [wcells]
      have hBA : Below w.heap.size w (wr.alloc (.cells #[.string p.nm, .int .i64 p.t, .int .i64 p.n, .string p.s] 27)) := b_alloc hB _
      have cp := print_any p.t p.n p.s (wr.alloc (.cells #[.string p.nm, .int .i64 p.t, .int .i64 p.n, .string p.s] 27)) (HK.out.2.1 p (List.mem_of_getElem? hp)).2 (tabOn HK.out.2.2.1 hBA)
      rw [if_pos (show vErr p.t p.n p.s.data.toList = 0 from hpok.2)] at cp
      have hnm : (⟨p.l.toArray⟩ : ByteArray) = p.nm := rfl
      have a1 := fun w => cat p.l [61] (by have := name_len hpok.1; omega) (by decide) w
      have a2 := fun w => cat (p.l ++ [61]) (showL p.t p.n p.s.data.toList) (by have := name_len hpok.1; simp; omega) (by have := show_len hpok.2; omega) w
      rw [hnm] at a1
      have HX : Hid (p.l ++ 61 :: showL p.t p.n p.s.data.toList = wordOf p) := rfl
      generalize showL p.t p.n p.s.data.toList = sl at cp a2 HX
      clear c0 c1' c2 c3 hp hT1 hpok hnm
      go_wp2_with (go_at_call 28; refine cp.mono ?_; rintro e W1 ⟨rfl, hB1⟩; refine Hid.out ?_)
      refine Lib.hid ?_
      obtain ⟨hz, ⟨g0, g1, g2, g3⟩, k0, k1, k2, k3⟩ := kept4P hB1
      have hB2 := on1 hBA hB1
      have hbase := hB2.size
      have hown1 : Hid (W1.ownsRow w.heap.size 9 1 u5 k (wcells (L.take k))) := own_on (HO.out.alloc _) hB1
      clear cp c1
      have HM : Hid (k + 1 ≤ maxLen ∧ (k + 1) * 16 ≤ 140737488355328) := by unfold maxLen; exact ⟨by omega, by omega⟩
      have hsz1 : w.heap.size ≤ W1.heap.size + 1 := by omega
      go_wp2_with (at_builtin; refine wpList_append_own _ rfl (.tmp 33) (.tmp 39) 62 rfl w.heap.size 9 i0 _ 1 16 Tryz.underlying62 hi0 hz0 hz1 hz2 rfl (by decide) u5 k (wcells (L.take k)) rfl (hown1.out.alloc _) ⟨W1.heap.size, 0, none⟩ 1 1 [.string ⟨(p.l ++ 61 :: sl).toArray⟩] rfl rfl (cell_new1 W1 _) (cell_one1 _) HM.out.1 HM.out.2 (by simp; omega) ?_; intro v1 w1 hown2 hgrow _; refine Hid.out ?_)
      refine Lib.hid ?_
      rw [HX.out, ← HW.out] at hown2
      go_wp2
      have R : PW w L v1 (.int .i64 ((k : Int) + 1)) w1 := ⟨k + 1, by omega, by go_num, hown2, (b_alloc hB2 _).grown hgrow (b_alloc hB2 _).size (fun j hj => (hown1.out.lt j hj).1)⟩
      refine ⟨?_, ?_⟩
      · first
          | exact R
          | ((repeat apply Exists.intro)
             refine ⟨?_, rfl⟩
             exact R)
      · simp [intOf]; omega
    · obtain rfl : k = L.length := by omega
      have hT2 : L.take L.length = L := List.take_length
      have hown := HO.out
      rw [hT2] at hown
      obtain ⟨g, cp, hv, hgl, hcells⟩ := words_at hown hpos
      subst hv
      have cj := Tryz.strings_Join g 0 cp (L.map fun p => (⟨(wordOf p).toArray⟩ : ByteArray)) ⟨#[44]⟩ wr (fun j x hx => by rw [Nat.zero_add]; exact hcells j x hx) hgl.1 (by simp; omega) (by simp; exact hgl.2)
        (by
          rw [show (L.map fun p => (⟨(wordOf p).toArray⟩ : ByteArray)).map (·.data.toList) = L.map wordOf by simp, joinW_eq]
          have := joinW_len (L.map wordOf) (fun w hw => by
            obtain ⟨p, hp, rfl⟩ := List.mem_map.1 hw
            exact word_len (HK.out.1 p hp))
          simp at this; omega)
      rw [show (L.map fun p => (⟨(wordOf p).toArray⟩ : ByteArray)).map (·.data.toList) = L.map wordOf by simp, joinW_eq, List.length_map, ← HS.out] at cj
      clear hT2 hown HO hcells c1
      go_wp2_with (go_at_call 29; refine cj.mono ?_; rintro e W1 ⟨rfl, hB1⟩)
      go_ret2
      exact ⟨rfl, on1 hB hB1⟩
set_option maxHeartbeats 4000000 in
set_option maxRecDepth 100000 in
theorem rprint_empty (ao : Option Addr) (cap : Nat) (w : World) (c : Calls Tryz.prog 7 #[.slice ao 0 cap] w fun e w' => e = .returned .nilIface ∧ Below w.heap.size w w') :
    Calls Tryz.prog 17 #[.slice ao 0 cap] w fun e w' => e = .returned (.tuple #[.string ⟨#[45]⟩, .nilIface]) ∧ Below w.heap.size w w' := by
  go_enter Tryz.func17, Tryz.ntmps17
  go_wp2_with (go_at_call 7; refine c.mono ?_; rintro e W0 ⟨rfl, hB0⟩)
  go_ret2
  exact ⟨rfl, hB0⟩
set_option maxHeartbeats 4000000 in
set_option maxRecDepth 100000 in
theorem rprint_err (v : Value) (ee : Int) (w : World) (c : Calls Tryz.prog 7 #[v] w fun e w' => e = .returned (.iface 53 (.int .i64 ee)) ∧ Below w.heap.size w w') :
    Calls Tryz.prog 17 #[v] w fun e w' => e = .returned (.tuple #[.string ⟨#[]⟩, .iface 53 (.int .i64 ee)]) ∧ Below w.heap.size w w' := by
  go_enter Tryz.func17, Tryz.ntmps17
  go_wp2_with (go_at_call 7; refine c.mono ?_; rintro e W0 ⟨rfl, hB0⟩)
  go_ret2
  exact ⟨rfl, hB0⟩
theorem rprint_ok {v : Value} {L : List Pr} {w : World} (h : IsRec w v L) (hs : Sz L) (he : rErr L = 0) (hT : Tab w) :
    Calls Tryz.prog 17 #[v] w fun e w' => e = .returned (.tuple #[.string ⟨(showR L).toArray⟩, .nilIface]) ∧ Below w.heap.size w w' := by
  have c := rcheck_any h hs (by have := rErr_len he; unfold maxLen; omega)
  rw [he, errV_0] at c
  rcases h with ⟨rfl, rfl⟩ | ⟨b, off, cap, rfl, hc, hb, hl⟩
  · exact rprint_empty none 0 w c
  · by_cases hne : L = []
    · subst hne; exact rprint_empty _ cap w c
    · exact rprint_some b off cap L w hb hl hs he hne hT
theorem rprint_bad {v : Value} {L : List Pr} {w : World} (h : IsRec w v L) (hs : Sz L) (hm : L.length ≤ maxLen) (he : ¬ rErr L = 0) :
    Calls Tryz.prog 17 #[v] w fun e w' => e = .returned (.tuple #[.string ⟨#[]⟩, .iface 53 (.int .i64 (rErr L))]) ∧ Below w.heap.size w w' := by
  have c := rcheck_any h hs hm
  rw [errV_ne he] at c
  exact rprint_err v _ w c
end Go.Proofs.YtghlncdnnmpikaaGreatDoor
