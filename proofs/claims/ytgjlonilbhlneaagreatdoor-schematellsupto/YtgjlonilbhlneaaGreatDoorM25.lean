/-
  The walks of what the law KindTells asks beside package kind: kinref1's Name, In, Kind; kinsame's Texts and Fields of two lists that are the same.
-/
import Derived.Test.YtgjlonilbhlneaaGreatDoorM07
import Derived.Deep.LoopGhost
import Derived.Deep.OwnRows
namespace Go.Proofs.YtgjlonilbhlneaaGreatDoor
open Go.RowKit
set_option linter.unusedVariables false
set_option linter.unusedSimpArgs false
def nms (K : List Kd) : List Nm := K.map Kd.nm

theorem ret_int {k : IntKind} {a b : Int} (h : a = b) : Ending.returned (.int k a) = .returned (.int k b) := by rw [h]

theorem let_iff (c : UInt8) : (noLet c = true) ↔ ((c.toNat : Int) < 97 ∨ 122 < (c.toNat : Int)) := by unfold noLet; simp
set_option maxHeartbeats 2000000 in
set_option maxRecDepth 100000 in
theorem rname_any (s : ByteArray) (w : World) (hs : s.size ≤ maxLen) :
    Calls Tryz.prog 20 #[.string s] w fun e w' => e = .returned (.int .i64 (nErr s.data.toList)) ∧ w' = w := by
  by_cases hE : s.data.toList = []
  · obtain rfl := list_eq hE
    go_enter Tryz.func20, Tryz.ntmps20
    go_wp2
    go_ret
    exact ⟨rfl, rfl⟩
  · have bE : s.toList.isEmpty = false := nonE s hE
    have bN : ¬ s.toList = [] := by rw [Lib.toList_data]; exact hE
    have hsz := size_len s
    by_cases h8 : 8 < s.size
    · have H1 : Hid (nErr s.data.toList = 2) := by
        show _ = _
        unfold nErr; rw [if_neg hE, if_pos (by omega)]
      clear hE hsz
      unfold maxLen at hs
      go_enter Tryz.func20, Tryz.ntmps20
      go_wp2
      go_ret
      exact ⟨ret_int (by rw [H1.out]), rfl⟩
    · have H1 : Hid (nErr s.data.toList = if hasP noLet s.data.toList = true then 2 else 0) := by
        show _ = _
        unfold nErr; rw [if_neg hE, if_neg (by omega)]
      clear hE hsz
      go_enter Tryz.func20, Tryz.ntmps20
      go_wp2
      go_loop [3] (fun i => ∃ k : Nat, k ≤ s.size ∧ i = .int .i64 k ∧ (s.data.toList.take k).any noLet = false) (fun i => s.size - (intOf i).toNat)
      case atStart => exact ⟨0, Nat.zero_le _, rfl, rfl⟩
      case round =>
        obtain ⟨k, hk, rfl, hno⟩ := hrel
        have HN : Hid ((s.data.toList.take k).any noLet = false) := hno
        clear hno
        by_cases hlt : k < s.size
        · by_cases hb : noLet s[k] = true
          · have HB : Hid (noLet s[k] = true) := hb
            rcases (let_iff _).1 hb with h | h
            all_goals
              clear hb
              go_wp2
              go_ret
              exact ⟨ret_int (by rw [H1.out, if_pos (any_hit _ s k hlt HB.out).symm]), rfl⟩
          · have HB : Hid (noLet s[k] = false) := by show _ = _; simpa using hb
            have h1 : 97 ≤ (s[k].toNat : Int) := by rw [let_iff] at hb; omega
            have h2 : (s[k].toNat : Int) ≤ 122 := by rw [let_iff] at hb; omega
            clear hb
            go_wp2
            go_round
            case rel => exact ⟨k + 1, by omega, by go_num, any_snoc _ s k hlt HN.out HB.out⟩
            case measure => simp [intOf]; omega
        · go_wp2
          go_ret
          exact ⟨ret_int (by rw [H1.out, if_neg (by rw [← any_end _ s k hlt HN.out]; decide)]), rfl⟩

set_option maxHeartbeats 4000000 in
set_option maxRecDepth 100000 in
theorem in_some (b off cap : Nat) (L : List Nm) (s : Nm) (w : World) (hL : LiesS w b off L) (hn : L.length ≤ 1000) :
    Calls Tryz.prog 39 #[.slice (some ⟨b, off, none⟩) L.length cap, .string (bs s)] w fun e w' => e = .returned (.bool (hasN L s)) ∧ w' = w := by
  go_enter Tryz.func39, Tryz.ntmps39
  go_wp2
  go_loop [5] (fun i => ∃ k : Nat, k ≤ L.length ∧ i = .int .i64 k ∧ hasN L s = hasN (L.drop k) s) (fun i => L.length - (intOf i).toNat)
  case atStart => exact ⟨0, Nat.zero_le _, rfl, rfl⟩
  case round =>
    obtain ⟨k, hk, rfl, hi⟩ := hrel
    have HI : Hid (hasN L s = hasN (L.drop k) s) := hi
    clear hi
    by_cases hlt : k < L.length
    · obtain ⟨p, hp⟩ : ∃ p, L[k]? = some p := ⟨L[k], by simp [hlt]⟩
      have c0 := hL k p hp
      have HD : Hid (L.drop k = p :: L.drop (k + 1)) := dropK hp
      clear hp hL
      by_cases hq : (p == s) = true
      · have H : Hid (hasN L s = true) := by
          show _ = _
          rw [HI.out, HD.out]
          have : p = s := by simpa using hq
          unfold hasN; simp [this]
        have hq2 : ((bs p).toList == (bs s).toList) = true := by simpa using hq
        clear HI HD
        go_wp2
        go_ret
        exact ⟨ret_v (by rw [H.out]; rfl), rfl⟩
      · have H : Hid (hasN L s = hasN (L.drop (k + 1)) s) := by
          show _ = _
          rw [HI.out, HD.out]
          have : ¬ s = p := fun e => hq (by simp [e])
          unfold hasN; simp [this]
        have hq' : (p == s) = false := by simpa using hq
        clear HI HD hq
        go_wp2
        go_round
        case rel => exact ⟨k + 1, by omega, by go_num, H.out⟩
        case measure => simp [intOf]; omega
    · have hd : L.drop k = [] := List.drop_eq_nil_of_le (by omega)
      have H : Hid (hasN L s = false) := by
        show _ = _
        rw [HI.out, hd]; rfl
      clear HI hd hL
      go_wp2
      go_ret
      exact ⟨ret_v (by rw [H.out]; rfl), rfl⟩
set_option maxHeartbeats 1000000 in
theorem in_nil (ao : Option Addr) (c : Nat) (s : Nm) (w : World) : Calls Tryz.prog 39 #[.slice ao 0 c, .string (bs s)] w fun e w' => e = .returned (.bool false) ∧ w' = w := by
  go_enter Tryz.func39, Tryz.ntmps39
  go_wp2
  go_loop [5] (fun i => i = .int .i64 0) (fun i => 0)
  case atStart => rfl
  case round =>
    obtain rfl := hrel
    go_wp2
    go_ret
    exact ⟨rfl, rfl⟩
theorem in_any {v : Value} {L : List Nm} {w : World} (h : IsS w v L) (hn : L.length ≤ 1000) (s : Nm) :
    Calls Tryz.prog 39 #[v, .string (bs s)] w fun e w' => e = .returned (.bool (hasN L s)) ∧ w' = w := by
  rcases h with ⟨ao, c, rfl, rfl, _⟩ | ⟨b, off, cap, rfl, hcap, hm, hb, hl⟩
  · exact in_nil ao c s w
  · exact in_some b off cap L s w hl hn

theorem isF_viewR {w : World} {v : Value} {l : List Fd} (h : IsF w v l) : ∃ ao c, v = .slice ao l.length c ∧ ∀ j g, l[j]? = some g → ∃ b o, ao = some ⟨b, o, none⟩ ∧ b < w.heap.size ∧ w.cell? ⟨b, o + j * 4, none⟩ = some (.string (bs g.nm)) ∧ w.cell? ⟨b, o + j * 4 + 1, none⟩ = some (.int .i64 g.t) ∧ w.cell? ⟨b, o + j * 4 + 2, none⟩ = some (.bool g.must) ∧ w.cell? ⟨b, o + j * 4 + 3, none⟩ = some (.bool g.key) := by
  rcases h with ⟨ao, c, rfl, rfl, _⟩ | ⟨b, off, cap, rfl, hc, hm, hb, hl⟩
  · exact ⟨ao, c, rfl, fun j g hg => by simp at hg⟩
  · exact ⟨_, _, rfl, fun j g hg => ⟨b, off, rfl, hb, hl j g hg⟩⟩

set_option maxHeartbeats 4000000 in
set_option maxRecDepth 100000 in
theorem rkind_some (b off cap : Nat) (L : List Kd) (s : Nm) (w : World) (hL : LiesK w b off L) (hn : L.length ≤ 12) :
    Calls Tryz.prog 15 #[.slice (some ⟨b, off, none⟩) L.length cap, .string (bs s)] w fun e w' => e = .returned (.int .i64 (idxK s L 0)) ∧ w' = w := by
  go_enter Tryz.func15, Tryz.ntmps15
  go_wp2
  go_loop [5] (fun i => ∃ k : Nat, k ≤ L.length ∧ i = .int .i64 k ∧ idxK s L 0 = idxK s (L.drop k) k) (fun i => L.length - (intOf i).toNat)
  case atStart => exact ⟨0, Nat.zero_le _, rfl, rfl⟩
  case round =>
    obtain ⟨k, hk, rfl, hi⟩ := hrel
    have HI : Hid (idxK s L 0 = idxK s (L.drop k) k) := hi
    clear hi
    by_cases hlt : k < L.length
    · obtain ⟨p, hp⟩ : ∃ p, L[k]? = some p := ⟨L[k], by simp [hlt]⟩
      obtain ⟨c0, _, _⟩ := hL k p hp
      have HD : Hid (L.drop k = p :: L.drop (k + 1)) := dropK hp
      clear hp hL
      by_cases hq : (p.nm == s) = true
      · have H : Hid (idxK s L 0 = k) := by
          show _ = _
          rw [HI.out, HD.out]; unfold idxK; rw [if_pos hq]
        have hq2 : ((bs p.nm).toList == (bs s).toList) = true := by simpa using hq
        clear HI HD
        go_wp2
        go_ret
        exact ⟨ret_v (by rw [H.out]; rfl), rfl⟩
      · have H : Hid (idxK s L 0 = idxK s (L.drop (k + 1)) (k + 1)) := by
          show _ = _
          rw [HI.out, HD.out]; conv => lhs; unfold idxK
          rw [if_neg hq]
        have hq' : (p.nm == s) = false := by simpa using hq
        clear HI HD hq
        go_wp2
        go_round
        case rel => exact ⟨k + 1, by omega, by go_num, H.out⟩
        case measure => simp [intOf]; omega
    · have hd : L.drop k = [] := List.drop_eq_nil_of_le (by omega)
      have H : Hid (idxK s L 0 = -1) := by
        show _ = _
        rw [HI.out, hd]; rfl
      clear HI hd hL
      go_wp2
      go_ret
      exact ⟨ret_v (by rw [H.out]; rfl), rfl⟩
set_option maxHeartbeats 1000000 in
theorem rkind_nil (s : Nm) (w : World) : Calls Tryz.prog 15 #[.slice none 0 0, .string (bs s)] w fun e w' => e = .returned (.int .i64 (-1)) ∧ w' = w := by
  go_enter Tryz.func15, Tryz.ntmps15
  go_wp2
  go_loop [5] (fun i => i = .int .i64 0) (fun i => 0)
  case atStart => rfl
  case round =>
    obtain rfl := hrel
    go_wp2
    go_ret
    exact ⟨rfl, rfl⟩
theorem rkind_any {v : Value} {L : List Kd} {w : World} (h : IsK w v L) (hn : L.length ≤ 12) (s : Nm) :
    Calls Tryz.prog 15 #[v, .string (bs s)] w fun e w' => e = .returned (.int .i64 (idxK s L 0)) ∧ w' = w := by
  rcases h with ⟨rfl, rfl⟩ | ⟨b, off, cap, rfl, hcap, hm, hb, hl⟩
  · exact rkind_nil s w
  · exact rkind_some b off cap L s w hl hn

theorem isS_viewR {w : World} {v : Value} {l : List Nm} (h : IsS w v l) : ∃ ao c, v = .slice ao l.length c ∧ ∀ j g, l[j]? = some g → ∃ b o, ao = some ⟨b, o, none⟩ ∧ b < w.heap.size ∧ w.cell? ⟨b, o + j, none⟩ = some (.string (bs g)) := by
  rcases h with ⟨ao, c, rfl, rfl, _⟩ | ⟨b, off, cap, rfl, hc, hm, hb, hl⟩
  · exact ⟨ao, c, rfl, fun j g hg => by simp at hg⟩
  · exact ⟨_, _, rfl, fun j g hg => ⟨b, off, rfl, hb, hl j g hg⟩⟩
set_option maxHeartbeats 4000000 in
set_option maxRecDepth 100000 in
theorem texts_sameR {v u : Value} {l : List Nm} {w : World} (h1 : IsS w v l) (h2 : IsS w u l) (hn : l.length ≤ 1000) :
    Calls Tryz.prog 18 #[v, u] w fun e w' => e = .returned (.bool true) ∧ Below w.heap.size w w' := by
  obtain ⟨a1, c1, rfl, g1⟩ := isS_viewR h1
  obtain ⟨a2, c2, rfl, g2⟩ := isS_viewR h2
  have HG : Hid ((∀ j g, l[j]? = some g → ∃ b o, a1 = some ⟨b, o, none⟩ ∧ b < w.heap.size ∧ w.cell? ⟨b, o + j, none⟩ = some (.string (bs g))) ∧ (∀ j g, l[j]? = some g → ∃ b o, a2 = some ⟨b, o, none⟩ ∧ b < w.heap.size ∧ w.cell? ⟨b, o + j, none⟩ = some (.string (bs g)))) := ⟨g1, g2⟩
  clear h1 h2 g1 g2
  go_enter Tryz.func18, Tryz.ntmps18
  go_wp2
  go_loopw [5] (fun i wr => ∃ k : Nat, k ≤ l.length ∧ i = .int .i64 k ∧ Below w.heap.size w wr) (fun i _ => l.length - (intOf i).toNat)
  case atStart => exact ⟨0, Nat.zero_le _, rfl, Below.refl _ _⟩
  case round =>
    obtain ⟨k, hk, rfl, hB⟩ := hrel
    by_cases hlt : k < l.length
    · obtain ⟨p, hp⟩ : ∃ p, l[k]? = some p := ⟨l[k], by simp [hlt]⟩
      obtain ⟨b1, o1, rfl, hb1, m1⟩ := HG.out.1 k p hp
      obtain ⟨b2, o2, rfl, hb2, m2⟩ := HG.out.2 k p hp
      have x1 := (hB.cell (p := ⟨b1, o1 + k, none⟩) hb1).trans m1
      have x2 := (hB.cell (p := ⟨b2, o2 + k, none⟩) hb2).trans m2
      have HB : Hid (Below w.heap.size w wr) := hB
      have hki : (k : Int) < (l.length : Int) := by omega
      clear m1 m2 hB hp hb1 hb2
      go_wp2_with fail
      go_quiet (fail)
      go_wp2
      go_roundw
      case rel => exact ⟨k + 1, by omega, by go_num, b_drewN HB.out _⟩
      case measure => simp [intOf]; omega
    · go_wp2
      go_ret
      exact ⟨rfl, hB⟩
end Go.Proofs.YtgjlonilbhlneaaGreatDoor

/-
  The walk of kinref1.Kin: the least closed set of names, by marks.
-/
namespace Go.Proofs.YtgjlonilbhlneaaGreatDoor
open Go.RowKit
set_option linter.unusedVariables false
set_option linter.unusedSimpArgs false

def Snd (L : List Kd) (a : Nm) (B : Nat → Bool) : Prop := ∀ i k, L[i]? = some k → B i = true → k.nm ∈ names L a
def ClsAt (L : List Kd) (B : Nat → Bool) (k : Kd) (m : Nat) : Prop := ∀ (t : Nat) (n : Nm), t < m → k.of[t]? = some n → ∀ (j : Nat) (x : Kd), L[j]? = some x → x.nm = n → B j = true
def Cls (L : List Kd) (B : Nat → Bool) (i : Nat) : Prop := ∀ (i' : Nat) (k : Kd), i' < i → L[i']? = some k → B i' = true → ClsAt L B k k.of.length
def cnt (n : Nat) (B : Nat → Bool) : Nat := ((List.range n).filter fun i => !B i).length
def mark (B : Nat → Bool) (j : Nat) : Nat → Bool := fun i => if i = j then true else B i
theorem cnt_mark {n j : Nat} {B : Nat → Bool} (hj : j < n) (h : B j = false) : cnt n (mark B j) < cnt n B := by
  unfold cnt
  induction n with
  | zero => omega
  | succ n ih =>
    rw [List.range_succ, List.filter_append, List.filter_append, List.length_append, List.length_append]
    by_cases hjn : j = n
    · subst hjn
      have e1 : ((List.range j).filter fun i => !mark B j i) = (List.range j).filter fun i => !B i := by
        apply List.filter_congr
        intro i hi
        have : ¬ i = j := by have := List.mem_range.1 hi; omega
        simp [mark, this]
      rw [e1]
      simp [mark, h]
    · have := ih (by omega)
      have e2 : ([n].filter fun i => !mark B j i) = [n].filter fun i => !B i := by simp only [List.filter_cons, List.filter_nil, mark, show ¬ n = j by omega, if_false]
      rw [e2]
      omega
theorem cnt_le (n : Nat) (B : Nat → Bool) : cnt n B ≤ n := by
  unfold cnt
  have := List.length_filter_le (fun i => !B i) (List.range n)
  simpa using this
theorem marks_done {L : List Kd} {a : Nm} {B : Nat → Bool} (h : Right L) (hs : Snd L a B) (hc : Cls L B L.length) {ja : Nat} {q : Kd} (hq : L[ja]? = some q) (hqa : q.nm = a) (ha : B ja = true) :
    ∀ i k, L[i]? = some k → B i = hasN (names L a) k.nm := by
  intro i k hk
  have hall : ∀ n ∈ names L a, (∀ j x, L[j]? = some x → x.nm = n → B j = true) := by
    refine names_least L a (fun n => ∀ j x, L[j]? = some x → x.nm = n → B j = true) ?_ ?_
    · intro x hx hT n hn j y hy hyn
      obtain ⟨i', hi'⟩ := List.mem_iff_getElem?.1 hx
      have hB := hT i' x hi' rfl
      obtain ⟨t, ht⟩ := List.mem_iff_getElem?.1 hn
      have hlt := (List.getElem?_eq_some_iff.1 hi').1
      exact hc i' x hlt hi' hB t n (List.getElem?_eq_some_iff.1 ht).1 ht j y hy hyn
    · intro j x hx hxn
      have := right_names h j ja x q hx hq (hxn.trans hqa.symm)
      rw [this]; exact ha
  cases hB : B i with
  | true => exact ((hasN_iff _ _).2 (hs i k hk hB)).symm
  | false =>
    cases hN : hasN (names L a) k.nm with
    | false => rfl
    | true =>
      have := hall k.nm ((hasN_iff _ _).1 hN) i k hk rfl
      rw [hB] at this; exact absurd this (by decide)
theorem snd_mark {L : List Kd} {a : Nm} {B : Nat → Bool} (h : Right L) (hs : Snd L a B) {i j : Nat} {k x : Kd} {n : Nm} (hk : L[i]? = some k) (hB : B i = true) (hn : n ∈ k.of) (hx : L[j]? = some x) (hxn : x.nm = n) : Snd L a (mark B j) := by
  intro i' k' hk' hB'
  unfold mark at hB'
  split at hB'
  · rename_i e
    subst e
    rw [hx] at hk'
    obtain rfl := Option.some.inj hk'
    rw [hxn]
    exact names_closed h a (List.mem_of_getElem? hk) (hs i k hk hB) n hn
  · exact hs i' k' hk' hB'
end Go.Proofs.YtgjlonilbhlneaaGreatDoor

/-
  The walk of kinref1.Kin.
-/
namespace Go.Proofs.YtgjlonilbhlneaaGreatDoor
open Go.RowKit
set_option linter.unusedVariables false
set_option linter.unusedSimpArgs false

theorem info4 : (Tryz.prog.info? 4).map (fun i => (i.zero, i.size, i.bytes)) = some (some (.bool false), 1, 1) := by kernel_rfl
def KB (w : World) (L : List Kd) (a : Nm) (ja : Nat) (B : Nat → Bool) (wr : World) : Prop :=
  wr.rowIs w.heap.size 4 L.length (fun i => .bool (B i)) ∧ Below w.heap.size w wr ∧ B ja = true ∧ Snd L a B
def KO (w : World) (L : List Kd) (a : Nm) (ja : Nat) (kx : Nat) (s6 : Value) (wr : World) : Prop :=
  ∃ (B : Nat → Bool) (ag : Bool), s6 = .bool ag ∧ KB w L a ja B wr ∧ (ag = false → Cls L B L.length) ∧ (if ag = true then 1 else 0) + 2 * cnt L.length B ≤ kx
def KE (L : List Kd) (B0 B : Nat → Bool) (ag : Bool) (X : Prop) : Prop := (ag = false ∧ B = B0 ∧ X) ∨ (ag = true ∧ cnt L.length B < cnt L.length B0)
def KPr (w : World) (L : List Kd) (a : Nm) (ja : Nat) (B0 : Nat → Bool) (s6 s7 : Value) (wr : World) : Prop :=
  ∃ (B : Nat → Bool) (ag : Bool) (i : Nat), s6 = .bool ag ∧ s7 = .int .i64 i ∧ i ≤ L.length ∧ KB w L a ja B wr ∧ KE L B0 B ag (Cls L B i)
def KQ (w : World) (L : List Kd) (a : Nm) (ja : Nat) (B0 : Nat → Bool) (i : Nat) (kd : Kd) (s6 s8 : Value) (wr : World) : Prop :=
  ∃ (B : Nat → Bool) (ag : Bool) (m : Nat), s6 = .bool ag ∧ s8 = .int .i64 m ∧ m ≤ kd.of.length ∧ KB w L a ja B wr ∧ KE L B0 B ag (Cls L B i ∧ (B i = true → ClsAt L B kd m))
theorem ke_map {L : List Kd} {B0 B : Nat → Bool} {ag : Bool} {X Y : Prop} (h : KE L B0 B ag X) (f : X → Y) : KE L B0 B ag Y := by
  rcases h with ⟨h1, h2, h3⟩ | h
  · exact .inl ⟨h1, h2, f h3⟩
  · exact .inr h
theorem cls_next {L : List Kd} {B : Nat → Bool} {i : Nat} {kd : Kd} (hk : L[i]? = some kd) (h : Cls L B i) (h2 : B i = true → ClsAt L B kd kd.of.length) : Cls L B (i + 1) := by
  intro i' k hi hk' hB
  by_cases e : i' = i
  · subst e
    rw [hk] at hk'
    obtain rfl := Option.some.inj hk'
    exact h2 hB
  · exact h i' k (by omega) hk' hB
theorem clsAt_next {L : List Kd} {B : Nat → Bool} {kd x : Kd} {m j : Nat} {n : Nm} (hR : Right L) (h : ClsAt L B kd m) (hn : kd.of[m]? = some n) (hx : L[j]? = some x) (hxn : x.nm = n) (hB : B j = true) : ClsAt L B kd (m + 1) := by
  intro t n' ht hn' j' x' hx' hxn'
  by_cases e : t = m
  · subst e
    rw [hn] at hn'
    obtain rfl := Option.some.inj hn'
    have := right_names hR j' j x' x hx' hx (hxn'.trans hxn.symm)
    rw [this]; exact hB
  · exact h t n' (by omega) hn' j' x' hx' hxn'
theorem kb_mark {w wr : World} {L : List Kd} {a : Nm} {ja j : Nat} {B : Nat → Bool} (h : KB w L a ja B wr) (hs : Snd L a (mark B j)) : KB w L a ja (mark B j) (wr.setCell ⟨w.heap.size, j, none⟩ (.bool true)) := by
  obtain ⟨h1, h2, h3, h4⟩ := h
  refine ⟨(h1.set j (.bool true)).congr (fun i hi => ?_), h2.setCell (Nat.le_refl _) _, ?_, hs⟩
  · unfold mark; split <;> rfl
  · unfold mark; split
    · rfl
    · exact h3

set_option maxHeartbeats 16000000 in
set_option maxRecDepth 100000 in
theorem rkin_some (b off cap : Nat) (L : List Kd) (a : Nm) (ja : Nat) (q : Kd) (w : World) (hb : b < w.heap.size) (hL : LiesK w b off L) (hP : Parts w L) (hS : Small L) (hn : L.length ≤ 12) (hR : Right L) (hx : idxK a L 0 = (ja : Int)) (hq : L[ja]? = some q) (hqa : q.nm = a) :
    Calls Tryz.prog 40 #[.slice (some ⟨b, off, none⟩) L.length cap, .string (bs a)] w fun e w' => ∃ v, e = .returned v ∧ w'.ownsRow w.heap.size 9 1 v (nms (L.filter fun x => hasN (names L a) x.nm)).length (cellsS (nms (L.filter fun x => hasN (names L a) x.nm))) ∧ Below w.heap.size w w' := by
  obtain ⟨i0, hi0, hz0, hz1, hz2⟩ := info_parts info4
  obtain ⟨i9, hi9, hz90, hz91, hz92⟩ := info_parts info9
  have hjl := (List.getElem?_eq_some_iff.1 hq).1
  have HH : Hid (LiesK w b off L ∧ Parts w L ∧ Small L ∧ L.length ≤ 12 ∧ Right L ∧ L[ja]? = some q ∧ q.nm = a ∧ ja < L.length) := ⟨hL, hP, hS, hn, hR, hq, hqa, hjl⟩
  have HC : Hid (∀ W, Below w.heap.size w W → ∀ s, Calls Tryz.prog 15 #[.slice (some ⟨b, off, none⟩) L.length cap, .string (bs s)] W fun e w' => e = .returned (.int .i64 (idxK s L 0)) ∧ w' = W) := fun W h s => rkind_some b off cap L s W (hL.on hb h) hn
  have hbn : i0.bytes * L.length ≤ 281474976710656 := by rw [hz2]; omega
  have hlm : L.length ≤ 9223372036854775807 := by omega
  clear hL hP hS hR hq hqa
  go_enter Tryz.func40, Tryz.ntmps40
  go_wp2_with (refine wpList_make_row _ rfl (.tmp 13) (.tmp 13) 115 rfl 4 i0 (.bool false) Tryz.underlying115 hi0 hz0 hz1 rfl .i64 .i64 L.length rfl rfl hbn hlm ?_; refine Hid.out ?_)
  refine Lib.hid ?_
  have hrow := World.rowIs_made w (.bool false) L.length 4
  have hB0 : Below w.heap.size w (w.alloc (.cells (madeCells #[.bool false] L.length) 4)) := b_alloc (Below.refl _ _) (Nat.le_refl _) _
  obtain ⟨W0, hW0⟩ : ∃ W0, W0 = w.alloc (.cells (madeCells #[.bool false] L.length) 4) := ⟨_, rfl⟩
  rw [← hW0] at hrow hB0 ⊢
  have c1 := HC.out W0 hB0 a
  rw [hx] at c1
  have s0 := hrow.cell hjl
  have s1 := hrow.frozen ja
  have hs0 : w.heap.size < W0.heap.size := hrow.lt
  have HK0 : Hid (KB w L a ja (mark (fun _ => false) ja) (W0.setCell ⟨w.heap.size, ja, none⟩ (.bool true))) := by
    refine ⟨(hrow.set ja (.bool true)).congr (fun i hi => ?_), hB0.setCell (Nat.le_refl _) _, ?_, ?_⟩
    · unfold mark; split <;> rfl
    · unfold mark; simp
    · intro i k hk hB
      unfold mark at hB
      split at hB
      · rename_i e
        subst e
        have h1 := HH.out.2.2.2.2.2.1
        rw [h1] at hk
        obtain rfl := Option.some.inj hk
        rw [HH.out.2.2.2.2.2.2.1]
        exact names_self L a
      · cases hB
  clear hrow hx hW0
  go_wp2_with (go_at_call 15; refine c1.mono ?_; rintro e W1 ⟨rfl, rfl⟩)
  obtain ⟨W2, hW2⟩ : ∃ W2, W2 = W1.setCell ⟨w.heap.size, ja, none⟩ (.bool true) := ⟨_, rfl⟩
  rw [← hW2] at HK0 ⊢
  clear hW2 c1 s0 s1 hB0 hs0
  go_loopg [6] (2 * L.length + 1) (fun kx s6 wr => KO w L a ja kx s6 wr)
  case atStart =>
    refine ⟨_, true, rfl, HK0.out, fun h => (by cases h), ?_⟩
    have := cnt_le L.length (mark (fun _ => false) ja)
    simp
    omega
  case round =>
    obtain ⟨B0, ag, rfl, hKB, hcl, hkx⟩ := hrel
    cases ag with
    | true =>
      simp only [if_true] at hkx
      have HO : Hid (KB w L a ja B0 wr) := hKB
      clear hKB hcl HK0
      go_wp2
      go_loopw [6, 7] (fun s6 s7 wx => KPr w L a ja B0 s6 s7 wx) (fun _ s7 _ => L.length - (intOf s7).toNat)
      case atStart => exact ⟨B0, false, 0, rfl, rfl, Nat.zero_le _, HO.out, .inl ⟨rfl, rfl, fun i' k h => absurd h (Nat.not_lt_zero _)⟩⟩
      case round =>
        obtain ⟨B, ag, i, rfl, rfl, hi, hKB, hKE⟩ := hrel
        by_cases hlt : i < L.length
        · obtain ⟨hL, hP, hS, hn', hR, _, _, _⟩ := HH.out
          obtain ⟨kd, hkd⟩ : ∃ kd, L[i]? = some kd := ⟨L[i], by simp [hlt]⟩
          obtain ⟨c0, c1, c2⟩ := hL i kd hkd
          have hkm : kd ∈ L := List.mem_of_getElem? hkd
          obtain ⟨ao, co, evo, hvo⟩ := isS_viewR (hP kd hkm).1
          rw [evo] at c1
          have h4 := (hS kd hkm).1
          have HI : Hid (L[i]? = some kd ∧ w.cell? ⟨b, off + i * 3 + 1, none⟩ = some (.slice ao kd.of.length co) ∧ (∀ j g, kd.of[j]? = some g → ∃ b o, ao = some ⟨b, o, none⟩ ∧ b < w.heap.size ∧ w.cell? ⟨b, o + j, none⟩ = some (.string (bs g))) ∧ kd.of.length ≤ 4) := ⟨hkd, c1, hvo, h4⟩
          have HQ0 : Hid (KQ w L a ja B0 i kd (.bool ag) (.int .i64 0) wr) := ⟨B, ag, 0, rfl, rfl, Nat.zero_le _, hKB, ke_map hKE (fun h => ⟨h, fun _ t n ht => absurd ht (Nat.not_lt_zero _)⟩)⟩
          clear hL hP hS hn' hR c0 c1 c2 hkd hkm evo hvo hKB hKE
          go_wp2
          go_loopw [6, 8] (fun s6 s8 wx => KQ w L a ja B0 i kd s6 s8 wx) (fun _ s8 _ => kd.of.length - (intOf s8).toNat)
          case atStart => exact HQ0.out
          case round =>
            obtain ⟨B, ag, m, rfl, rfl, hm, hKB, hKE⟩ := hrel
            have d1 := (hKB.2.1.cell (p := ⟨b, off + i * 3 + 1, none⟩) hb).trans HI.out.2.1
            have r0 := hKB.1.cell hlt
            have hsz : w.heap.size < wr.heap.size := hKB.1.lt
            by_cases hml : m < kd.of.length
            · cases hBi : B i with
              | true =>
                rw [hBi] at r0
                obtain ⟨nn, hnn⟩ : ∃ nn, kd.of[m]? = some nn := ⟨kd.of[m], by simp [hml]⟩
                obtain ⟨bo, oo, rfl, hbo, hco⟩ := HI.out.2.2.1 m nn hnn
                have d2 := (hKB.2.1.cell (p := ⟨bo, oo + m, none⟩) hbo).trans hco
                obtain ⟨y, hy, hyn⟩ := right_of HH.out.2.2.2.2.1 kd (by simpa using List.mem_of_getElem? HI.out.1) nn (List.mem_of_getElem? hnn)
                have hyL : y ∈ L := by simpa using hy
                have hidx : ¬ idxK nn L 0 = -1 := fun e => idxK_none e y hyL hyn
                obtain ⟨j, x, hj, hxj, hxn⟩ := idxK_has hidx
                have hjl := (List.getElem?_eq_some_iff.1 hxj).1
                have ck := HC.out wr hKB.2.1 nn
                rw [hj] at ck
                have q0 := hKB.1.cell hjl
                have q1 := hKB.1.frozen j
                cases hBj : B j with
                | true =>
                  rw [hBj] at q0
                  have R : KQ w L a ja B0 i kd (.bool ag) (.int .i64 ((m + 1 : Nat) : Int)) wr := ⟨B, ag, m + 1, rfl, rfl, by omega, hKB, ke_map hKE (fun h => ⟨h.1, fun hb' => clsAt_next HH.out.2.2.2.2.1 (h.2 hb') hnn hxj hxn hBj⟩)⟩
                  have HR : Hid (KQ w L a ja B0 i kd (.bool ag) (.int .i64 ((m + 1 : Nat) : Int)) wr) := R
                  have hj12 : j < 12 := by omega
                  clear R hKB hKE hy hyn hyL hidx hj hxj hxn hnn hbo hco hBi hBj
                  go_wp2_with (go_at_call 15; refine ck.mono ?_; rintro e Wq ⟨rfl, rfl⟩)
                  refine ⟨?_, ?_⟩
                  · first | exact HR.out | ((repeat apply Exists.intro); refine ⟨?_, rfl⟩; exact HR.out)
                  · simp [intOf]
                    try omega
                | false =>
                  rw [hBj] at q0
                  have hcm := cnt_mark hjl hBj
                  have R : KQ w L a ja B0 i kd (.bool true) (.int .i64 ((m + 1 : Nat) : Int)) (wr.setCell ⟨w.heap.size, j, none⟩ (.bool true)) := by
                    refine ⟨mark B j, true, m + 1, rfl, rfl, by omega, kb_mark hKB (snd_mark HH.out.2.2.2.2.1 hKB.2.2.2 HI.out.1 hBi (List.mem_of_getElem? hnn) hxj hxn), .inr ⟨rfl, ?_⟩⟩
                    rcases hKE with ⟨_, e, _⟩ | ⟨_, e⟩
                    · rw [e] at hcm ⊢; exact hcm
                    · omega
                  have HR : Hid (KQ w L a ja B0 i kd (.bool true) (.int .i64 ((m + 1 : Nat) : Int)) (wr.setCell ⟨w.heap.size, j, none⟩ (.bool true))) := R
                  have hj12 : j < 12 := by omega
                  clear R hKB hKE hy hyn hyL hidx hj hxj hxn hnn hbo hco hBi hBj hcm
                  go_wp2_with (go_at_call 15; refine ck.mono ?_; rintro e Wq ⟨rfl, rfl⟩)
                  refine ⟨?_, ?_⟩
                  · first | exact HR.out | ((repeat apply Exists.intro); refine ⟨?_, rfl⟩; exact HR.out)
                  · simp [intOf]
                    try omega
              | false =>
                rw [hBi] at r0
                have R : KPr w L a ja B0 (.bool ag) (.int .i64 ((i + 1 : Nat) : Int)) wr := ⟨B, ag, i + 1, rfl, rfl, by omega, hKB, ke_map hKE (fun h => cls_next HI.out.1 h.1 (fun hb' => by rw [hBi] at hb'; cases hb'))⟩
                have HR : Hid (KPr w L a ja B0 (.bool ag) (.int .i64 ((i + 1 : Nat) : Int)) wr) := R
                clear R hKB hKE hBi
                go_wp2
                refine ⟨?_, ?_⟩
                · first | exact HR.out | ((repeat apply Exists.intro); refine ⟨?_, rfl⟩; exact HR.out)
                · simp [intOf]
                  try omega
            · have hme : m = kd.of.length := by omega
              have R : KPr w L a ja B0 (.bool ag) (.int .i64 ((i + 1 : Nat) : Int)) wr := ⟨B, ag, i + 1, rfl, rfl, by omega, hKB, ke_map hKE (fun h => cls_next HI.out.1 h.1 (by rw [← hme]; exact h.2))⟩
              have HR : Hid (KPr w L a ja B0 (.bool ag) (.int .i64 ((i + 1 : Nat) : Int)) wr) := R
              clear R hKB hKE hme
              go_wp2
              refine ⟨?_, ?_⟩
              · first | exact HR.out | ((repeat apply Exists.intro); refine ⟨?_, rfl⟩; exact HR.out)
              · simp [intOf]
                try omega
        · have hie : i = L.length := by omega
          subst hie
          rcases hKE with ⟨rfl, rfl, hC⟩ | ⟨rfl, hlt2⟩
          · have R : KO w L a ja (2 * cnt L.length B) (.bool false) wr := ⟨B, false, rfl, hKB, fun _ => hC, by simp⟩
            have HR : Hid (KO w L a ja (2 * cnt L.length B) (.bool false) wr) := R
            clear R hKB hC
            go_wp2
            go_roundg (2 * cnt L.length B)
            case measure => omega
            case rel => exact HR.out
          · have R : KO w L a ja (1 + 2 * cnt L.length B) (.bool true) wr := ⟨B, true, rfl, hKB, fun h => (by cases h), by simp⟩
            have HR : Hid (KO w L a ja (1 + 2 * cnt L.length B) (.bool true) wr) := R
            clear R hKB
            go_wp2
            go_roundg (1 + 2 * cnt L.length B)
            case measure => omega
            case rel => exact HR.out
    | false =>
      have hdone := marks_done HH.out.2.2.2.2.1 hKB.2.2.2 (hcl rfl) HH.out.2.2.2.2.2.1 HH.out.2.2.2.2.2.2.1 hKB.2.2.1
      have HO : Hid (wr.rowIs w.heap.size 4 L.length (fun i => .bool (B0 i)) ∧ Below w.heap.size w wr ∧ ∀ i k, L[i]? = some k → B0 i = hasN (names L a) k.nm) := ⟨hKB.1, hKB.2.1, hdone⟩
      clear hKB hcl hkx hdone HK0
      go_wp2
      go_loopw [10, 11] (fun s10 s11 wx => ∃ k : Nat, k ≤ L.length ∧ s11 = .int .i64 k ∧ wx.ownsRow (w.heap.size + 1) 9 1 s10 (nms ((L.take k).filter fun x => hasN (names L a) x.nm)).length (cellsS (nms ((L.take k).filter fun x => hasN (names L a) x.nm))) ∧ wx.rowIs w.heap.size 4 L.length (fun i => .bool (B0 i)) ∧ Below w.heap.size w wx) (fun _ s11 _ => L.length - (intOf s11).toNat)
      case atStart => exact ⟨0, Nat.zero_le _, rfl, World.ownsRow_nil _ _ _ _, HO.out.1, HO.out.2.1⟩
      case round =>
        obtain ⟨k, hk, rfl, hown, hrow, hB⟩ := hrel
        by_cases hlt : k < L.length
        · obtain ⟨p, hp⟩ : ∃ p, L[k]? = some p := ⟨L[k], by simp [hlt]⟩
          obtain ⟨c0, _, _⟩ := HH.out.1 k p hp
          have d0 := (hB.cell (p := ⟨b, off + k * 3, none⟩) hb).trans c0
          have r0 := hrow.cell hlt
          have hsz : w.heap.size < wr.heap.size := hrow.lt
          have hBk := HO.out.2.2 k p hp
          have htk := takeK hp
          obtain ⟨F, hF⟩ : ∃ F, F = nms ((L.take k).filter fun x => hasN (names L a) x.nm) := ⟨_, rfl⟩
          have hFl : F.length ≤ 12 := by
            rw [hF]; unfold nms
            have h1 := List.length_filter_le (fun x => hasN (names L a) x.nm) (L.take k)
            simp at h1 ⊢
            omega
          rw [← hF] at hown
          cases hN : hasN (names L a) p.nm with
          | false =>
            rw [hBk, hN] at r0
            have HR : Hid (wr.ownsRow (w.heap.size + 1) 9 1 u10 (nms ((L.take (k + 1)).filter fun x => hasN (names L a) x.nm)).length (cellsS (nms ((L.take (k + 1)).filter fun x => hasN (names L a) x.nm))) ∧ wr.rowIs w.heap.size 4 L.length (fun i => .bool (B0 i)) ∧ Below w.heap.size w wr) := by
              refine ⟨?_, hrow, hB⟩
              have e : nms ((L.take (k + 1)).filter fun x => hasN (names L a) x.nm) = F := by rw [htk, hF]; simp [nms, List.filter_append, hN]
              rw [e]; exact hown
            clear hown hrow hB hF hFl htk hBk hN c0 hp
            go_wp2
            go_roundw
            case rel => exact ⟨k + 1, by omega, by go_num, HR.out.1, HR.out.2.1, HR.out.2.2⟩
            case measure => simp [intOf]; omega
          | true =>
            rw [hBk, hN] at r0
            have hBa : Below w.heap.size w (wr.alloc (.cells #[.string (bs p.nm)] 9)) := b_alloc hB (Nat.le_refl _) _
            have HA : Hid ((wr.alloc (.cells #[.string (bs p.nm)] 9)).ownsRow (w.heap.size + 1) 9 1 u10 F.length (cellsS F) ∧ (wr.alloc (.cells #[.string (bs p.nm)] 9)).rowIs w.heap.size 4 L.length (fun i => .bool (B0 i)) ∧ Below w.heap.size w (wr.alloc (.cells #[.string (bs p.nm)] 9))) := ⟨hown.alloc _, hrow.alloc _, hBa⟩
            have HE : Hid (nms ((L.take (k + 1)).filter fun x => hasN (names L a) x.nm) = F ++ [p.nm]) := by
              show _ = _
              rw [htk, hF]; simp [nms, List.filter_append, hN]
            have HM : Hid (F.length + 1 ≤ maxLen ∧ (F.length + 1) * 16 ≤ 140737488355328) := by unfold maxLen; exact ⟨by omega, by omega⟩
            have hbs : w.heap.size + 1 ≤ (wr.alloc (.cells #[.string (bs p.nm)] 9)).heap.size := by simp; omega
            clear hown hrow hB hF hFl htk hBk hN c0 hp hBa
            go_wp2_with (at_builtin; refine wpList_append_own _ rfl (.tmp 71) (.tmp 77) 45 rfl (w.heap.size + 1) 9 i9 _ 1 16 Tryz.underlying45 hi9 hz90 hz91 hz92 rfl (by decide) u10 F.length (cellsS F) rfl HA.out.1 ⟨wr.heap.size, 0, none⟩ 1 1 [.string (bs p.nm)] rfl rfl (new_at _ _ _) (by simp [Value.oneCell']) HM.out.1 HM.out.2 hbs ?_; intro v1 w1 hown1 hgrow1 _; refine Hid.out ?_)
            refine Lib.hid ?_
            have HR : Hid (w1.ownsRow (w.heap.size + 1) 9 1 v1 (nms ((L.take (k + 1)).filter fun x => hasN (names L a) x.nm)).length (cellsS (nms ((L.take (k + 1)).filter fun x => hasN (names L a) x.nm))) ∧ w1.rowIs w.heap.size 4 L.length (fun i => .bool (B0 i)) ∧ Below w.heap.size w w1) := by
              refine ⟨?_, HA.out.2.1.of_block (hgrow1.block _ HA.out.2.1.lt (fun e => ?_)), HA.out.2.2.grown hgrow1 HA.out.2.2.size (fun k hk => ?_)⟩
              · rw [HE.out, List.length_append, cellsS_app]; exact hown1
              · have := (HA.out.1.lt _ e.symm).1; omega
              · have := (HA.out.1.lt k hk).1; omega
            clear hown1
            go_wp2
            go_roundw
            case rel => exact ⟨k + 1, by omega, by go_num, HR.out.1, HR.out.2.1, HR.out.2.2⟩
            case measure => simp [intOf]; omega
        · have hke : L.take k = L := List.take_of_length_le (by omega)
          rw [hke] at hown
          have HR : Hid (wr.ownsRow (w.heap.size + 1) 9 1 u10 (nms (L.filter fun x => hasN (names L a) x.nm)).length (cellsS (nms (L.filter fun x => hasN (names L a) x.nm))) ∧ Below w.heap.size w wr) := ⟨hown, hB⟩
          clear hown hrow hB hke
          go_wp2
          go_ret
          exact ⟨_, rfl, own_base HR.out.1 (Nat.le_succ _), HR.out.2⟩
end Go.Proofs.YtgjlonilbhlneaaGreatDoor
