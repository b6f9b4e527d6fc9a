/-
  The walk of record.Print.
-/
import Derived.Test.YteabdlandbmdaaaDoorM07
import Derived.Laws.Concat
import Derived.Lib.ItoaLen
import Derived.Test.YteabdlandbmdaaaDoorM01
import Derived.Lib.IndexLaws
import Derived.Lib.Walk
import Derived.Lib.Bytealg
import Derived.Test.YteabdlandbmdaaaDoorM03
import Derived.Lib.AtoiAll
namespace Go.Proofs.YteabdlandbmdaaaDoor
open Go.RowKit
set_option linter.unusedVariables false
set_option linter.unusedSimpArgs false

theorem cat (x y : List UInt8) (hx : x.length ≤ 8388608) (hy : y.length ≤ 8388608) (w : World) : (Op.stringOp .add ⟨x.toArray⟩ ⟨y.toArray⟩).run Tryd.prog w = .ok (.string ⟨(x ++ y).toArray⟩) w := run_string_add_lists w x y (by omega) (by omega)
theorem name_len {l : List UInt8} (h : nErr l = 0) : l.length ≤ 8 := by
  unfold nErr at h
  split at h
  · exact absurd h (by decide)
  · split at h
    · exact absurd h (by decide)
    · omega
theorem show_len {t n : Int} {l : List UInt8} (h : vErr t n l = 0) : (showL t n l).length ≤ 42 := by
  have ht : t = 1 ∨ t = 2 ∨ t = 3 := by
    unfold vErr at h; split at h
    · assumption
    · exact absurd h (by decide)
  have hr : inR t n = true := by
    unfold vErr at h; rw [if_pos ht] at h; split at h
    · assumption
    · exact absurd h (by decide)
  unfold showL
  rcases ht with rfl | rfl | rfl
  · rw [if_pos rfl]
    have hr' : -1000000 ≤ n ∧ n ≤ 1000000 := by simpa [inR] using hr
    have := Lib.itoa_length_le n (by omega) (by omega)
    omega
  · rw [if_neg (by decide), if_pos rfl]
    split <;> decide
  · rw [if_neg (by decide), if_neg (by decide)]
    have h20 : l.length ≤ 20 := by
      unfold vErr at h; rw [if_pos (by omega), if_pos hr, if_pos rfl] at h
      unfold tErr at h; split at h
      · exact absurd h (by decide)
      · omega
    have := dbl_len l
    simp [quo]; omega
theorem word_len {p : Pr} (h : p.ok) : (wordOf p).length ≤ 51 := by
  have h1 := name_len h.1
  have h2 := show_len h.2
  unfold wordOf; simp; omega
theorem info9 : (Tryd.prog.info? 9).map (fun i => (i.zero, i.size, i.bytes)) = some (some (.string ⟨#[]⟩), 1, 16) := by kernel_rfl
theorem cell_new1 (w0 : World) (v : Value) : ∀ j u, [v][j]? = some u → (w0.alloc (.cells #[v] 9)).cell? ((⟨w0.heap.size, 0, none⟩ : Addr).add j) = some u := by
  intro j u hu
  match j, hu with
  | 0, hu => simp at hu; subst hu; simp [Addr.add]
  | k + 1, hu => simp at hu
theorem cell_one1 (x : ByteArray) : ∀ u ∈ [Value.string x], u.oneCell' = true := by
  intro u hu; simp at hu; subst hu; rfl
def wcells (L : List Pr) : List Value := L.map fun p => .string ⟨(wordOf p).toArray⟩
theorem words_at {w : World} {base : Nat} {v : Value} {L : List Pr} (h : w.ownsRow base 9 1 v L.length (wcells L)) (hp : 0 < L.length) :
    ∃ g cp, v = .slice (some ⟨g, 0, none⟩) L.length cp ∧ (g < w.heap.size ∧ L.length ≤ cp) ∧ ∀ (j : Nat) (x : ByteArray), (L.map fun p => (⟨(wordOf p).toArray⟩ : ByteArray))[j]? = some x → w.cell? ⟨g, j, none⟩ = some (.string x) := by
  have hc : ∀ g, v.ownBlock = some g → ∀ j u, (wcells L)[j]? = some u → w.cell? ((⟨g, 0, none⟩ : Addr).add j) = some u := fun g hg => h.cells hg
  rcases h.2 with ⟨rfl, h0⟩ | ⟨g, cap, cur, rfl, hb, hg, hle, _⟩
  · omega
  · refine ⟨g, cap, rfl, ⟨(Array.getElem?_eq_some_iff.1 hg).1, hle⟩, fun j x hx => ?_⟩
    have := hc g rfl j (.string x) (by
      rw [List.getElem?_map] at hx
      obtain ⟨p, h1, h2⟩ := Option.map_eq_some_iff.1 hx
      unfold wcells
      rw [List.getElem?_map, h1, ← h2]; rfl)
    rw [Addr.add_lit, Nat.zero_add] at this
    exact this
theorem joinW_eq (L : List (List UInt8)) : Lib.join L [44] = joinW L := by
  unfold Lib.join
  induction L with
  | nil => rfl
  | cons a r ih =>
    cases r with
    | nil => simp [joinW, List.intercalate]
    | cons b r =>
      show _ = a ++ 44 :: joinW (b :: r)
      rw [← ih]
      simp [List.intercalate, List.intersperse]
theorem joinW_len (L : List (List UInt8)) (h : ∀ w ∈ L, w.length ≤ 51) : (joinW L).length ≤ 52 * L.length := by
  induction L with
  | nil => simp [joinW]
  | cons a r ih =>
    have ha := h a (by simp)
    cases r with
    | nil => simp [joinW]; omega
    | cons b r =>
      have := ih (fun w hw => h w (by simp [hw]))
      show (a ++ 44 :: joinW (b :: r)).length ≤ _
      simp at this ⊢; omega
theorem own_al1 {w w0 : World} {base : Nat} {e : TypeId} {size : Nat} {v : Value} {n : Nat} {xs : List Value} (h : w.ownsRow base e size v n xs) (hB : ∀ k, base ≤ k → k < w.heap.size → w0.heap[k]? = w.heap[k]?) : w0.ownsRow base e size v n xs := by
  refine ⟨h.1, ?_⟩
  rcases h.2 with hn | ⟨g, cap, cur, hv, hb, hg, rest⟩
  · exact .inl hn
  · exact .inr ⟨g, cap, cur, hv, hb, by rw [hB g hb (Array.getElem?_eq_some_iff.1 hg).1]; exact hg, rest⟩
theorem own_on {w w0 : World} {base : Nat} {e : TypeId} {size : Nat} {v : Value} {n : Nat} {xs : List Value} (h : w.ownsRow base e size v n xs) (hB : Below w.heap.size w w0) : w0.ownsRow base e size v n xs :=
  own_al1 h (fun k _ hk => hB.block k hk)

theorem kept4P {w W1 : World} {v0 v1 v2 v3 : Value} {t : TypeId} (hB : Below (w.alloc (.cells #[v0, v1, v2, v3] t)).heap.size (w.alloc (.cells #[v0, v1, v2, v3] t)) W1) :
    w.heap.size < W1.heap.size ∧ (W1.cell? ⟨w.heap.size, 0, none⟩ = some v0 ∧ W1.cell? ⟨w.heap.size, 1, none⟩ = some v1 ∧ W1.cell? ⟨w.heap.size, 2, none⟩ = some v2 ∧ W1.cell? ⟨w.heap.size, 3, none⟩ = some v3) ∧
      (W1.frozen? ⟨w.heap.size, 0, none⟩ = false ∧ W1.frozen? ⟨w.heap.size, 1, none⟩ = false ∧ W1.frozen? ⟨w.heap.size, 2, none⟩ = false ∧ W1.frozen? ⟨w.heap.size, 3, none⟩ = false) := by
  refine ⟨Nat.lt_of_lt_of_le (by simp) hB.size, ⟨?_, ?_, ?_, ?_⟩, ⟨?_, ?_, ?_, ?_⟩⟩
  · rw [hB.cell (p := ⟨w.heap.size, 0, none⟩) (by simp)]; simp
  · rw [hB.cell (p := ⟨w.heap.size, 1, none⟩) (by simp)]; simp
  · rw [hB.cell (p := ⟨w.heap.size, 2, none⟩) (by simp)]; simp
  · rw [hB.cell (p := ⟨w.heap.size, 3, none⟩) (by simp)]; simp
  · rw [hB.frozen (p := ⟨w.heap.size, 0, none⟩) (by simp)]; simp
  · rw [hB.frozen (p := ⟨w.heap.size, 1, none⟩) (by simp)]; simp
  · rw [hB.frozen (p := ⟨w.heap.size, 2, none⟩) (by simp)]; simp
  · rw [hB.frozen (p := ⟨w.heap.size, 3, none⟩) (by simp)]; simp

def PW (w : World) (L : List Pr) (ws i : Value) (wr : World) : Prop := ∃ k : Nat, k ≤ L.length ∧ i = .int .i64 k ∧ wr.ownsRow w.heap.size 9 1 ws k (wcells (L.take k)) ∧ Below w.heap.size w wr
set_option maxHeartbeats 4000000 in
set_option maxRecDepth 100000 in
theorem rprint_some (b off cap : Nat) (L : List Pr) (w : World) (hb : b < w.heap.size) (hL : Lies w b off L) (hs : Sz L) (he : rErr L = 0) (hne : L ≠ []) (hT : Tab w) :
    Calls Tryd.prog 7 #[.slice (some ⟨b, off, none⟩) L.length cap] w fun e w' => e = .returned (.tuple #[.string ⟨(showR L).toArray⟩, .nilIface]) ∧ Below w.heap.size w w' := by
  obtain ⟨i0, hi0, hz0, hz1, hz2⟩ := info_parts info9
  have hn := rErr_len he
  have hok := rErr_ok he
  have hpos : 0 < L.length := List.length_pos_iff.2 hne
  have hl0 : ((L.length : Int) == 0) = false := by simp; omega
  have c1 : Calls Tryd.prog 15 #[.slice (some ⟨b, off, none⟩) L.length cap] w fun e w' => e = .returned .nilIface ∧ Below w.heap.size w w' := by
    have := rcheck_some b off cap L w hb hL hs hn
    have e0 : chk none L = 0 := by unfold rErr at he; rw [if_neg (by omega)] at he; exact he
    rw [e0] at this; exact this
  have HS : Hid (showR L = joinW (L.map wordOf)) := by
    show _ = _
    unfold showR; rw [if_neg hne]
  have HK : Hid ((∀ p ∈ L, p.ok) ∧ Sz L ∧ Tab w ∧ Lies w b off L) := ⟨hok, hs, hT, hL⟩
  clear hok hs hT hL he hne
  go_enter Tryd.func7, Tryd.ntmps7
  go_wp2_with (go_at_call 15; refine c1.mono ?_; rintro e W0 ⟨rfl, hB0⟩)
  go_loopw [5, 20] (fun ws i wr => PW w L ws i wr) (fun _ i _ => L.length - (intOf i).toNat)
  case atStart => exact ⟨0, Nat.zero_le _, rfl, World.ownsRow_nil _ _ _ _, hB0⟩
  case round =>
    obtain ⟨k, hk, rfl, hown, hB⟩ := hrel
    have HO : Hid (wr.ownsRow w.heap.size 9 1 u5 k (wcells (L.take k))) := hown
    clear hown
    by_cases hlt : k < L.length
    · obtain ⟨p, hp⟩ : ∃ p, L[k]? = some p := ⟨L[k], by simp [hlt]⟩
      obtain ⟨c0, c1', c2, c3⟩ := HK.out.2.2.2 k p hp
      have d0 := (hB.cell (p := ⟨b, off + k * 4, none⟩) hb).trans c0
      have d1 := (hB.cell (p := ⟨b, off + k * 4 + 1, none⟩) hb).trans c1'
      have d2 := (hB.cell (p := ⟨b, off + k * 4 + 2, none⟩) hb).trans c2
      have d3 := (hB.cell (p := ⟨b, off + k * 4 + 3, none⟩) hb).trans c3
      have hpok := HK.out.1 p (List.mem_of_getElem? hp)
      have hT1 : L.take (k + 1) = L.take k ++ [p] := by
        obtain ⟨hk', rfl⟩ := List.getElem?_eq_some_iff.1 hp
        exact List.take_succ_eq_append_getElem hk'
      have HW : Hid (wcells (L.take (k + 1)) = wcells (L.take k) ++ [.string ⟨(wordOf p).toArray⟩]) := by
        show _ = _
        rw [hT1]; simp [wcells]
      have hBA : Below w.heap.size w (wr.alloc (.cells #[.string p.nm, .int .i64 p.t, .int .i64 p.n, .string p.s] 53)) := b_alloc hB _
      have cp := print_any p.t p.n p.s (wr.alloc (.cells #[.string p.nm, .int .i64 p.t, .int .i64 p.n, .string p.s] 53)) (HK.out.2.1 p (List.mem_of_getElem? hp)).2 (tabOn HK.out.2.2.1 hBA)
      rw [if_pos (show vErr p.t p.n p.s.data.toList = 0 from hpok.2)] at cp
      have hnm : (⟨p.l.toArray⟩ : ByteArray) = p.nm := rfl
      have a1 := fun w => cat p.l [61] (by have := name_len hpok.1; omega) (by decide) w
      have a2 := fun w => cat (p.l ++ [61]) (showL p.t p.n p.s.data.toList) (by have := name_len hpok.1; simp; omega) (by have := show_len hpok.2; omega) w
      rw [hnm] at a1
      have HX : Hid (p.l ++ 61 :: showL p.t p.n p.s.data.toList = wordOf p) := rfl
      generalize showL p.t p.n p.s.data.toList = sl at cp a2 HX
      clear c0 c1' c2 c3 hp hT1 hpok hnm
      go_wp2_with (go_at_call 16; refine cp.mono ?_; rintro e W1 ⟨rfl, hB1⟩; refine Hid.out ?_)
      refine Lib.hid ?_
      obtain ⟨hz, ⟨g0, g1, g2, g3⟩, k0, k1, k2, k3⟩ := kept4P hB1
      have hB2 := on1B hBA hB1
      have hbase := hB2.size
      have hown1 : Hid (W1.ownsRow w.heap.size 9 1 u5 k (wcells (L.take k))) := own_on (HO.out.alloc _) hB1
      clear cp c1
      have HM : Hid (k + 1 ≤ maxLen ∧ (k + 1) * 16 ≤ 140737488355328) := by unfold maxLen; exact ⟨by omega, by omega⟩
      have hsz1 : w.heap.size ≤ W1.heap.size + 1 := by omega
      go_wp2_with (at_builtin; refine wpList_append_own _ rfl (.tmp 33) (.tmp 39) 58 rfl w.heap.size 9 i0 _ 1 16 Tryd.underlying58 hi0 hz0 hz1 hz2 rfl (by decide) u5 k (wcells (L.take k)) rfl (hown1.out.alloc _) ⟨W1.heap.size, 0, none⟩ 1 1 [.string ⟨(p.l ++ 61 :: sl).toArray⟩] rfl rfl (cell_new1 W1 _) (cell_one1 _) HM.out.1 HM.out.2 (by simp; omega) ?_; intro v1 w1 hown2 hgrow _; refine Hid.out ?_)
      refine Lib.hid ?_
      rw [HX.out, ← HW.out] at hown2
      go_wp2
      have R : PW w L v1 (.int .i64 ((k : Int) + 1)) w1 := ⟨k + 1, by omega, by go_num, hown2, (b_alloc hB2 _).grown hgrow (b_alloc hB2 _).size (fun j hj => (hown1.out.lt j hj).1)⟩
      refine ⟨?_, ?_⟩
      · first
          | exact R
          | ((repeat apply Exists.intro)
             refine ⟨?_, rfl⟩
             exact R)
      · simp [intOf]; omega
    · obtain rfl : k = L.length := by omega
      have hT2 : L.take L.length = L := List.take_length
      have hown := HO.out
      rw [hT2] at hown
      obtain ⟨g, cp, hv, hgl, hcells⟩ := words_at hown hpos
      subst hv
      have cj := Tryd.strings_Join g 0 cp (L.map fun p => (⟨(wordOf p).toArray⟩ : ByteArray)) ⟨#[44]⟩ wr (fun j x hx => by rw [Nat.zero_add]; exact hcells j x hx) hgl.1 (by simp; omega) (by simp; exact hgl.2)
        (by
          rw [show (L.map fun p => (⟨(wordOf p).toArray⟩ : ByteArray)).map (·.data.toList) = L.map wordOf by simp, joinW_eq]
          have := joinW_len (L.map wordOf) (fun w hw => by
            obtain ⟨p, hp, rfl⟩ := List.mem_map.1 hw
            exact word_len (HK.out.1 p hp))
          simp at this; omega)
      rw [show (L.map fun p => (⟨(wordOf p).toArray⟩ : ByteArray)).map (·.data.toList) = L.map wordOf by simp, joinW_eq, List.length_map, ← HS.out] at cj
      clear hT2 hown HO hcells c1
      go_wp2_with (go_at_call 17; refine cj.mono ?_; rintro e W1 ⟨rfl, hB1⟩)
      go_ret2
      exact ⟨rfl, on1B hB hB1⟩
set_option maxHeartbeats 4000000 in
set_option maxRecDepth 100000 in
theorem rprint_empty (ao : Option Addr) (cap : Nat) (w : World) (c : Calls Tryd.prog 15 #[.slice ao 0 cap] w fun e w' => e = .returned .nilIface ∧ Below w.heap.size w w') :
    Calls Tryd.prog 7 #[.slice ao 0 cap] w fun e w' => e = .returned (.tuple #[.string ⟨#[45]⟩, .nilIface]) ∧ Below w.heap.size w w' := by
  go_enter Tryd.func7, Tryd.ntmps7
  go_wp2_with (go_at_call 15; refine c.mono ?_; rintro e W0 ⟨rfl, hB0⟩)
  go_ret2
  exact ⟨rfl, hB0⟩
end Go.Proofs.YteabdlandbmdaaaDoor

/-
  A text's lines, each with its end: what they are, and that they make the text.
-/
namespace Go.Proofs.YteabdlandbmdaaaDoor
open Go.RowKit
set_option linter.unusedVariables false
set_option linter.unusedSimpArgs false


abbrev Nm := List UInt8
def bs (l : Nm) : ByteArray := ⟨l.toArray⟩
theorem bs_toList (l : Nm) : (bs l).toList = l := by rw [Lib.toList_data]; simp [bs]
theorem bs_data (l : Nm) : (bs l).data.toList = l := by simp [bs]
theorem bs_size (l : Nm) : (bs l).size = l.length := by simp [bs, ByteArray.size]
attribute [simp, go_sem] bs_toList bs_data
theorem cellB {w : World} {b i : Nat} {cs : Array Value} {t : TypeId} {u : Value} (h : w.heap[b]? = some (.cells cs t (0, 0))) (hu : cs[i]? = some u) : w.cell? ⟨b, i, none⟩ = some u := by simp [World.cell?, h, hu]
end Go.Proofs.YteabdlandbmdaaaDoor

/-
  What package text says, in plain functions: a graph's lines, what a line reads as, what lines make; there and back.
-/
namespace Go.Proofs.YteabdlandbmdaaaDoor
open Go.RowKit
set_option linter.unusedVariables false
set_option linter.unusedSimpArgs false

def Nd.c (n : Nd) : Nd := ⟨n.id, n.kd, .nilIface, n.rc⟩
def wNode : Nm := [110, 111, 100, 101]
def wTie : Nm := [116, 105, 101]
def j4 (a b c d : Nm) : Nm := a ++ 32 :: (b ++ 32 :: (c ++ 32 :: d))
def ndL (n : Nd) : Nm := j4 wNode (Lib.itoa n.id) n.kd.data.toList (showR n.rc)
def teL (t : Te) : Nm := j4 wTie t.bd.data.toList (Lib.itoa t.fr) (Lib.itoa t.tt)
def gText (N : List Nd) (T : List Te) : Nm := (N.flatMap fun n => ndL n ++ [10]) ++ (T.flatMap fun t => teL t ++ [10])

theorem itoa_no {v : Int} (h1 : 1 ≤ v) (h2 : v ≤ 1000) {c : UInt8} (hc : c = 32 ∨ c = 10) : c ∉ Lib.itoa v := fun hm => by
  have := itoa_bytes v (by omega) (by omega) c hm
  rcases hc with rfl | rfl
  · revert this; decide
  · revert this; decide
theorem name_no {l : Nm} (h : nErr l = 0) {c : UInt8} (hc : c = 32 ∨ c = 10) : c ∉ l := fun hm => by
  have := name_bytes h c hm
  rcases hc with rfl | rfl
  · revert this; decide
  · revert this; decide
theorem dbl_mem (l : Nm) : ∀ c ∈ dbl l, c = 39 ∨ c ∈ l := by
  induction l with
  | nil => intro c h; simp [dbl] at h
  | cons a r ih =>
    intro c h
    unfold dbl at h
    split at h
    · rcases List.mem_cons.1 h with h | h
      · exact .inl h
      · rcases List.mem_cons.1 h with h | h
        · exact .inl h
        · rcases ih c h with h | h
          · exact .inl h
          · exact .inr (List.mem_cons_of_mem _ h)
    · rcases List.mem_cons.1 h with h | h
      · exact .inr (h ▸ List.mem_cons_self ..)
      · rcases ih c h with h | h
        · exact .inl h
        · exact .inr (List.mem_cons_of_mem _ h)
theorem show_no {t n : Int} {l : Nm} (h : vErr t n l = 0) : (10 : UInt8) ∉ showL t n l := by
  have ht : t = 1 ∨ t = 2 ∨ t = 3 := by
    unfold vErr at h; split at h
    · assumption
    · exact absurd h (by decide)
  have hr : inR t n = true := by
    unfold vErr at h; rw [if_pos ht] at h; split at h
    · assumption
    · exact absurd h (by decide)
  unfold showL
  rcases ht with rfl | rfl | rfl
  · rw [if_pos rfl]
    have hr' : -1000000 ≤ n ∧ n ≤ 1000000 := by simpa [inR] using hr
    intro hm
    have := itoa_bytes n hr'.1 hr'.2 _ hm
    revert this; decide
  · rw [if_neg (by decide), if_pos rfl]
    split <;> decide
  · rw [if_neg (by decide), if_neg (by decide)]
    have hb : hasP badB l = false := by
      unfold vErr at h; rw [if_pos (by omega), if_pos hr, if_pos rfl] at h
      unfold tErr at h
      split at h
      · exact absurd h (by decide)
      · split at h
        · exact absurd h (by decide)
        · rename_i hq; simpa using hq
    intro hm
    unfold quo at hm
    rcases List.mem_cons.1 hm with e | hm
    · revert e; decide
    · rcases List.mem_append.1 hm with hm | hm
      · rcases dbl_mem l _ hm with e | hm
        · revert e; decide
        · unfold hasP at hb
          rw [List.any_eq_false] at hb
          have := hb _ hm
          revert this; decide
      · revert hm; decide
theorem joinW_mem (ws : List Nm) : ∀ c ∈ joinW ws, c = 44 ∨ ∃ w ∈ ws, c ∈ w := by
  rw [← joinW_eq]
  unfold Lib.join
  induction ws with
  | nil => intro c hc; simp at hc
  | cons a r ih =>
    intro c hc
    cases r with
    | nil => right; exact ⟨a, by simp, by simpa using hc⟩
    | cons b q =>
      rw [List.intercalate_cons_cons] at hc
      rcases List.mem_append.1 hc with hc | hc
      · rcases List.mem_append.1 hc with hc | hc
        · exact .inr ⟨a, by simp, hc⟩
        · exact .inl (by simpa using hc)
      · rcases ih c hc with h | ⟨w, h1, h2⟩
        · exact .inl h
        · exact .inr ⟨w, List.mem_cons_of_mem _ h1, h2⟩
theorem showR_no {L : List Pr} (h : rErr L = 0) : (10 : UInt8) ∉ showR L := by
  have hok := rErr_ok h
  unfold showR
  split
  · decide
  · intro hm
    rcases joinW_mem _ _ hm with e | ⟨w, h1, h2⟩
    · revert e; decide
    · obtain ⟨p, hp, rfl⟩ := List.mem_map.1 h1
      unfold wordOf at h2
      rcases List.mem_append.1 h2 with h2 | h2
      · exact name_no (hok p hp).1 (.inr rfl) h2
      · rcases List.mem_cons.1 h2 with e | h2
        · revert e; decide
        · exact show_no (hok p hp).2 h2
theorem showR_le {L : List Pr} (h : rErr L = 0) : (showR L).length ≤ 416 := by
  have hl := rErr_len h
  have hok := rErr_ok h
  unfold showR
  split
  · decide
  · have := joinW_len (L.map wordOf) (fun w hw => by
      obtain ⟨p, hp, rfl⟩ := List.mem_map.1 hw
      exact word_len (hok p hp))
    simp at this; omega

structure NOk (n : Nd) : Prop where
  id1 : 1 ≤ n.id
  id2 : n.id ≤ 1000
  kd : nErr n.kd.data.toList = 0
  rc : rErr n.rc = 0
structure TOk (t : Te) : Prop where
  bd : nErr t.bd.data.toList = 0
  f1 : 1 ≤ t.fr
  f2 : t.fr ≤ 1000
  t1 : 1 ≤ t.tt
  t2 : t.tt ≤ 1000
theorem idOk_iff {i : Int} (h : idOk i = true) : 1 ≤ i ∧ i ≤ 1000 := by unfold idOk at h; simpa using h
theorem chkN_nok : ∀ (N : List Nd) (o : Option Nd), chkN o N = 0 → ∀ n ∈ N, NOk n
  | [], _, _, n, hn => by simp at hn
  | a :: r, o, h, n, hn => by
    by_cases h0 : ndE o a = 0
    · rw [chkN_ok h0] at h
      rcases List.mem_cons.1 hn with rfl | hn
      · unfold ndE at h0
        split at h0
        · rename_i hi
          split at h0
          · exact absurd h0 (by decide)
          · split at h0
            · rename_i hk; exact ⟨(idOk_iff hi).1, (idOk_iff hi).2, hk, h0⟩
            · rename_i hk; exact absurd h0 hk
        · exact absurd h0 (by decide)
      · exact chkN_nok r _ h n hn
    · rw [chkN_bad h0] at h; exact absurd h h0
theorem chkT_tok : ∀ (T : List Te) (o : Option Te), chkT o T = 0 → ∀ t ∈ T, TOk t
  | [], _, _, n, hn => by simp at hn
  | a :: r, o, h, n, hn => by
    by_cases h0 : teE o a = 0
    · rw [chkT_ok h0] at h
      rcases List.mem_cons.1 hn with rfl | hn
      · unfold teE at h0
        split at h0
        · rename_i hk
          split at h0
          · rename_i hi
            rw [Bool.and_eq_true] at hi
            exact ⟨hk, (idOk_iff hi.1).1, (idOk_iff hi.1).2, (idOk_iff hi.2).1, (idOk_iff hi.2).2⟩
          · exact absurd h0 (by decide)
        · rename_i hk; exact absurd h0 hk
      · exact chkT_tok r _ h n hn
    · rw [chkT_bad h0] at h; exact absurd h h0
theorem gErr_zero {N : List Nd} {T : List Te} (h : gErr N T = 0) : N.length ≤ 60 ∧ T.length ≤ 120 ∧ (∀ n ∈ N, NOk n) ∧ ∀ t ∈ T, TOk t := by
  unfold gErr at h
  split at h
  · exact absurd h (by decide)
  · split at h
    · rename_i h1 h2
      exact ⟨by omega, by omega, chkN_nok _ _ h2, chkT_tok _ _ h⟩
    · rename_i h1 h2; exact absurd h h2

theorem wNode_no {c : UInt8} (hc : c = 32 ∨ c = 10) : c ∉ wNode := by rcases hc with rfl | rfl <;> decide
theorem wTie_no {c : UInt8} (hc : c = 32 ∨ c = 10) : c ∉ wTie := by rcases hc with rfl | rfl <;> decide
theorem j4_no {a b c d : Nm} {x : UInt8} (hx : x ≠ 32) (ha : x ∉ a) (hb : x ∉ b) (hc : x ∉ c) (hd : x ∉ d) : x ∉ j4 a b c d := by
  unfold j4
  simp only [List.mem_append, List.mem_cons, not_or]
  exact ⟨ha, hx, hb, hx, hc, hx, hd⟩
theorem ndL_no {n : Nd} (h : NOk n) : (10 : UInt8) ∉ ndL n := j4_no (by decide) (wNode_no (.inr rfl)) (itoa_no h.id1 h.id2 (.inr rfl)) (name_no h.kd (.inr rfl)) (showR_no h.rc)
theorem teL_no {t : Te} (h : TOk t) : (10 : UInt8) ∉ teL t := j4_no (by decide) (wTie_no (.inr rfl)) (name_no h.bd (.inr rfl)) (itoa_no h.f1 h.f2 (.inr rfl)) (itoa_no h.t1 h.t2 (.inr rfl))
def nl (l : Nm) : Nat := l.countP (· == 10)
theorem nl_app (a b : Nm) : nl (a ++ b) = nl a + nl b := List.countP_append
theorem nl_zero {l : Nm} (h : (10 : UInt8) ∉ l) : nl l = 0 := by
  unfold nl; rw [List.countP_eq_zero]; intro c hc
  simp only [beq_iff_eq]
  intro e; exact h (e ▸ hc)
theorem nl_lines {α : Type} (f : α → Nm) : ∀ l : List α, (∀ x ∈ l, (10 : UInt8) ∉ f x) → nl (l.flatMap fun x => f x ++ [10]) = l.length
  | [], _ => rfl
  | a :: r, h => by
    rw [List.flatMap_cons, nl_app, nl_app, nl_zero (h a (by simp)), nl_lines f r (fun x hx => h x (List.mem_cons_of_mem _ hx))]
    simp [nl]; omega
theorem gText_nl {N : List Nd} {T : List Te} (h : gErr N T = 0) : nl (gText N T) = N.length + T.length := by
  obtain ⟨_, _, hn, ht⟩ := gErr_zero h
  unfold gText
  rw [nl_app, nl_lines ndL N (fun n hm => ndL_no (hn n hm)), nl_lines teL T (fun n hm => teL_no (ht n hm))]
theorem ndL_le {n : Nd} (h : NOk n) : (ndL n).length ≤ 460 := by
  have h1 := Lib.itoa_length_le n.id (by have := h.id1; omega) (by have := h.id2; omega)
  have h2 := name_len h.kd
  have h3 := showR_le h.rc
  unfold ndL j4 wNode
  simp only [List.length_append, List.length_cons, List.length_nil]
  omega
theorem teL_le {t : Te} (h : TOk t) : (teL t).length ≤ 60 := by
  have h1 := Lib.itoa_length_le t.fr (by have := h.f1; omega) (by have := h.f2; omega)
  have h3 := Lib.itoa_length_le t.tt (by have := h.t1; omega) (by have := h.t2; omega)
  have h2 := name_len h.bd
  unfold teL j4 wTie
  simp only [List.length_append, List.length_cons, List.length_nil]
  omega
theorem lines_le {α : Type} (f : α → Nm) (m : Nat) : ∀ l : List α, (∀ x ∈ l, (f x).length ≤ m) → (l.flatMap fun x => f x ++ [10]).length ≤ (m + 1) * l.length
  | [], _ => by simp
  | a :: r, h => by
    have h1 := h a (by simp)
    have h2 := lines_le f m r (fun x hx => h x (List.mem_cons_of_mem _ hx))
    simp only [List.flatMap_cons, List.length_append, List.length_cons, List.length_nil] at h2 ⊢
    rw [Nat.mul_add, Nat.mul_one]
    omega
theorem gText_le {N : List Nd} {T : List Te} (h : gErr N T = 0) : (gText N T).length ≤ 36000 := by
  obtain ⟨h1, h2, hn, ht⟩ := gErr_zero h
  have a := lines_le ndL 460 N (fun n hm => ndL_le (hn n hm))
  have b := lines_le teL 60 T (fun n hm => teL_le (ht n hm))
  have c : 461 * N.length ≤ 461 * 60 := Nat.mul_le_mul_left _ h1
  have d : 61 * T.length ≤ 61 * 120 := Nat.mul_le_mul_left _ h2
  unfold gText
  rw [List.length_append]
  omega
end Go.Proofs.YteabdlandbmdaaaDoor
