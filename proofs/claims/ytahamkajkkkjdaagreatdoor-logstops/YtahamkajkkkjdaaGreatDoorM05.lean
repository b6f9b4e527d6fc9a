import Derived.Test.YtahamkajkkkjdaaGreatDoorM04
import Derived.Lib.Hide
import Derived.Deep.QuietTactic
import Derived.BigQuiet
import Derived.Deep.RegionLaw
import Derived.Deep.RegionWith
import Derived.Shelf.SlicesQ.Reverse
import Derived.Lib.OwnBridge
import Derived.Laws.AppendOwnNone
namespace Go.Proofs.YtahamkajkkkjdaaGreatDoor
open Go.RowKit
set_option linter.unusedVariables false
set_option linter.unusedSimpArgs false
theorem b_allocKC {B : Nat} {w w' : World} (h : Below B w w') (hB : B ≤ w.heap.size) (o : Obj) : Below B w (w'.alloc o) := h.alloc (Nat.le_trans hB h.size) o
theorem on1KC {B : Nat} {w w1 w2 : World} (h1 : Below B w w1) (h2 : Below w1.heap.size w1 w2) (hB : B ≤ w.heap.size) : Below B w w2 := h1.trans (h2.mono (Nat.le_trans hB h1.size))
set_option maxHeartbeats 1000000 in
theorem isName_any (k : Kd) (b : Nat) (s : Nm) (w : World) (hc : w.cell? ⟨b, 0, none⟩ = some (.string (bs s))) (hb : b < w.heap.size) :
    Calls Tryz.prog 65 #[k.one, .pointer (some ⟨b, 0, none⟩)] w fun e w' => e = .returned (.bool (k.nm == s)) ∧ w' = w.alloc (.cells #[.string (bs k.nm), k.vo, k.vf] 30) := by
  go_enter Tryz.func65, Tryz.ntmps65
  go_wp2
  go_ret
  exact ⟨by simp, rfl⟩
set_option maxHeartbeats 4000000 in
set_option maxRecDepth 100000 in
theorem idxF_some (b off cap : Nat) (L : List Kd) (bn : Nat) (s : Nm) (w : World) (hb : b < w.heap.size) (hL : LiesK w b off L) (hn : L.length ≤ 12) (hbn : bn < w.heap.size) (hc : w.cell? ⟨bn, 0, none⟩ = some (.string (bs s))) :
    Calls Tryz.prog 64 #[.slice (some ⟨b, off, none⟩) L.length cap, .func (.func 65) #[] #[.pointer (some ⟨bn, 0, none⟩)]] w fun e w' => e = .returned (.int .i64 (idxK s L 0)) ∧ Below w.heap.size w w' := by
  go_enter Tryz.func64, Tryz.ntmps64
  go_wp2
  go_loopw [8] (fun i wr => ∃ k : Nat, k ≤ L.length ∧ i = .int .i64 k ∧ idxK s L 0 = idxK s (L.drop k) k ∧ Below w.heap.size w wr) (fun i _ => L.length - (intOf i).toNat)
  case atStart => exact ⟨0, Nat.zero_le _, rfl, rfl, Below.refl _ _⟩
  case round =>
    obtain ⟨k, hk, rfl, hi, hB⟩ := hrel
    have HI : Hid (idxK s L 0 = idxK s (L.drop k) k) := hi
    clear hi
    by_cases hlt : k < L.length
    · obtain ⟨p, hp⟩ : ∃ p, L[k]? = some p := ⟨L[k], by simp [hlt]⟩
      obtain ⟨c0, c1, c2⟩ := hL k p hp
      have d0 := (hB.cell (p := ⟨b, off + k * 3, none⟩) hb).trans c0
      have d1 := (hB.cell (p := ⟨b, off + k * 3 + 1, none⟩) hb).trans c1
      have d2 := (hB.cell (p := ⟨b, off + k * 3 + 2, none⟩) hb).trans c2
      have HD : Hid (L.drop k = p :: L.drop (k + 1)) := dropK hp
      have cn := isName_any p bn s wr ((hB.cell (p := ⟨bn, 0, none⟩) hbn).trans hc) (Nat.lt_of_lt_of_le hbn hB.size)
      clear c0 c1 c2 hp hL hc
      by_cases hq : (p.nm == s) = true
      · have H : Hid (idxK s L 0 = k) := by
          show _ = _
          rw [HI.out, HD.out]; unfold idxK; rw [if_pos hq]
        rw [hq] at cn
        clear HI HD hq
        go_wp2_with (go_at_call 65; refine cn.mono ?_; rintro e w' ⟨rfl, rfl⟩)
        go_ret
        exact ⟨ret_v (by rw [H.out]; rfl), b_allocKC hB (Nat.le_refl _) _⟩
      · have H : Hid (idxK s L 0 = idxK s (L.drop (k + 1)) (k + 1)) := by
          show _ = _
          rw [HI.out, HD.out]; conv => lhs; unfold idxK
          rw [if_neg hq]
        have hq' : (p.nm == s) = false := by simpa using hq
        rw [hq'] at cn
        clear HI HD hq hq'
        go_wp2_with (go_at_call 65; refine cn.mono ?_; rintro e w' ⟨rfl, rfl⟩)
        go_roundw
        case rel => exact ⟨k + 1, by omega, by go_num, H.out, b_allocKC hB (Nat.le_refl _) _⟩
        case measure => simp [intOf]; omega
    · have hd : L.drop k = [] := List.drop_eq_nil_of_le (by omega)
      have H : Hid (idxK s L 0 = -1) := by
        show _ = _
        rw [HI.out, hd]; rfl
      clear HI hd hL hc
      go_wp2
      go_ret
      exact ⟨ret_v (by rw [H.out]; rfl), hB⟩
set_option maxHeartbeats 1000000 in
theorem idxF_nil (f : Value) (w : World) :
    Calls Tryz.prog 64 #[.slice none 0 0, f] w fun e w' => e = .returned (.int .i64 (-1)) ∧ Below w.heap.size w w' := by
  go_enter Tryz.func64, Tryz.ntmps64
  go_wp2
  go_loopw [8] (fun i wr => i = .int .i64 0 ∧ wr = w) (fun i _ => 0)
  case atStart => exact ⟨rfl, rfl⟩
  case round =>
    obtain ⟨rfl, rfl⟩ := hrel
    go_wp2
    go_ret
    exact ⟨rfl, Below.refl _ _⟩
theorem idxF_any {v : Value} {L : List Kd} {w : World} (h : IsK w v L) (hn : L.length ≤ 12) (bn : Nat) (s : Nm) (hbn : bn < w.heap.size) (hc : w.cell? ⟨bn, 0, none⟩ = some (.string (bs s))) :
    Calls Tryz.prog 64 #[v, .func (.func 65) #[] #[.pointer (some ⟨bn, 0, none⟩)]] w fun e w' => e = .returned (.int .i64 (idxK s L 0)) ∧ Below w.heap.size w w' := by
  rcases h with ⟨rfl, rfl⟩ | ⟨b, off, cap, rfl, hcap, hm, hb, hl⟩
  · exact idxF_nil _ w
  · exact idxF_some b off cap L bn s w hb hl hn hbn hc
set_option maxHeartbeats 1000000 in
theorem index_anyC {v : Value} {L : List Kd} {w : World} (h : IsK w v L) (hn : L.length ≤ 12) (s : Nm) :
    Calls Tryz.prog 39 #[v, .string (bs s)] w fun e w' => e = .returned (.int .i64 (idxK s L 0)) ∧ Below w.heap.size w w' := by
  have hB0 : Below w.heap.size w (w.alloc (.cells #[.string (bs s)] 9)) := b_allocKC (Below.refl _ _) (Nat.le_refl _) _
  have c := idxF_any (h.on hB0) hn w.heap.size s (by simp) (by simp)
  generalize idxK s L 0 = r at c ⊢
  clear h hn
  go_enter Tryz.func39, Tryz.ntmps39
  go_wp2_with (go_at_call 64; refine c.mono ?_; rintro e w' ⟨rfl, hB1⟩)
  go_ret
  exact ⟨rfl, on1KC hB0 hB1 (Nat.le_refl _)⟩
def idxS (nm : Nm) : List Nm → Nat → Int
  | [], _ => -1
  | p :: r, k => if (nm == p) = true then k else idxS nm r (k + 1)
theorem idxS_has (nm : Nm) (l : List Nm) : ∀ k : Nat, decide (0 ≤ idxS nm l k) = hasN l nm := by
  induction l with
  | nil => intro k; rfl
  | cons p r ih =>
    intro k
    by_cases h : (nm == p) = true
    · have e : idxS nm (p :: r) k = k := by unfold idxS; rw [if_pos h]
      have h2 : nm = p := by simpa using h
      rw [e]; unfold hasN; simp [h2]
    · have e : idxS nm (p :: r) k = idxS nm r (k + 1) := by
        conv => lhs; unfold idxS
        rw [if_neg h]
      have h2 : ¬ nm = p := by simpa using h
      rw [e, ih]; unfold hasN; simp [h2]
set_option maxHeartbeats 4000000 in
set_option maxRecDepth 100000 in
theorem idxS_some (b off cap : Nat) (L : List Nm) (s : Nm) (w : World) (hL : LiesS w b off L) (hn : L.length ≤ 1000) :
    Calls Tryz.prog 97 #[.slice (some ⟨b, off, none⟩) L.length cap, .string (bs s)] w fun e w' => e = .returned (.int .i64 (idxS s L 0)) ∧ w' = w := by
  go_enter Tryz.func97, Tryz.ntmps97
  go_wp2
  go_loop [8] (fun i => ∃ k : Nat, k ≤ L.length ∧ i = .int .i64 k ∧ idxS s L 0 = idxS s (L.drop k) k) (fun i => L.length - (intOf i).toNat)
  case atStart => exact ⟨0, Nat.zero_le _, rfl, rfl⟩
  case round =>
    obtain ⟨k, hk, rfl, hi⟩ := hrel
    have HI : Hid (idxS s L 0 = idxS s (L.drop k) k) := hi
    clear hi
    by_cases hlt : k < L.length
    · obtain ⟨p, hp⟩ : ∃ p, L[k]? = some p := ⟨L[k], by simp [hlt]⟩
      have c0 := hL k p hp
      have HD : Hid (L.drop k = p :: L.drop (k + 1)) := dropK hp
      clear hp hL
      by_cases hq : (s == p) = true
      · have H : Hid (idxS s L 0 = k) := by
          show _ = _
          rw [HI.out, HD.out]; unfold idxS; rw [if_pos hq]
        have hq2 : ((bs s).toList == (bs p).toList) = true := by simpa using hq
        clear HI HD
        go_wp2
        go_ret
        exact ⟨ret_v (by rw [H.out]; rfl), rfl⟩
      · have H : Hid (idxS s L 0 = idxS s (L.drop (k + 1)) (k + 1)) := by
          show _ = _
          rw [HI.out, HD.out]; conv => lhs; unfold idxS
          rw [if_neg hq]
        have hq' : (s == p) = false := by simpa using hq
        clear HI HD hq
        go_wp2
        go_round
        case rel => exact ⟨k + 1, by omega, by go_num, H.out⟩
        case measure => simp [intOf]; omega
    · have hd : L.drop k = [] := List.drop_eq_nil_of_le (by omega)
      have H : Hid (idxS s L 0 = -1) := by
        show _ = _
        rw [HI.out, hd]; rfl
      clear HI hd hL
      go_wp2
      go_ret
      exact ⟨ret_v (by rw [H.out]; rfl), rfl⟩
set_option maxHeartbeats 1000000 in
theorem idxS_nil (ao : Option Addr) (c : Nat) (s : Nm) (w : World) :
    Calls Tryz.prog 97 #[.slice ao 0 c, .string (bs s)] w fun e w' => e = .returned (.int .i64 (-1)) ∧ w' = w := by
  go_enter Tryz.func97, Tryz.ntmps97
  go_wp2
  go_loop [8] (fun i => i = .int .i64 0) (fun i => 0)
  case atStart => rfl
  case round =>
    obtain rfl := hrel
    go_wp2
    go_ret
    exact ⟨rfl, rfl⟩
theorem idxS_any {v : Value} {L : List Nm} {w : World} (h : IsS w v L) (hn : L.length ≤ 1000) (s : Nm) :
    Calls Tryz.prog 97 #[v, .string (bs s)] w fun e w' => e = .returned (.int .i64 (idxS s L 0)) ∧ w' = w := by
  rcases h with ⟨ao, c, rfl, rfl, _⟩ | ⟨b, off, cap, rfl, hcap, hm, hb, hl⟩
  · exact idxS_nil ao c _ w
  · exact idxS_some b off cap L s w hl hn
set_option maxHeartbeats 1000000 in
theorem contains_any {v : Value} {L : List Nm} {w : World} (h : IsS w v L) (hn : L.length ≤ 1000) (s : Nm) :
    Calls Tryz.prog 66 #[v, .string (bs s)] w fun e w' => e = .returned (.bool (hasN L s)) ∧ w' = w := by
  have c := idxS_any h hn s
  have H : Hid (decide (0 ≤ idxS s L 0) = hasN L s) := idxS_has s L 0
  generalize idxS s L 0 = r at c H
  clear h hn
  go_enter Tryz.func66, Tryz.ntmps66
  go_wp2_with (go_at_call 97; refine c.mono ?_; rintro e w' ⟨rfl, rfl⟩)
  go_ret
  exact ⟨ret_v (by rw [← H.out]; rfl), rfl⟩
end Go.Proofs.YtahamkajkkkjdaaGreatDoor
namespace Go.Proofs.YtahamkajkkkjdaaGreatDoor
open Go.RowKit Go.Shelf
set_option linter.unusedVariables false
set_option linter.unusedSimpArgs false
theorem flat_len {α : Type} (enc : α → List Value) (s : Nat) (hs : ∀ x, (enc x).length = s) (L : List α) : (L.flatMap enc).length = L.length * s := by
  induction L with
  | nil => simp
  | cons x r ih => simp only [List.flatMap_cons, List.length_append, List.length_cons, ih, hs, Nat.add_mul]; omega
theorem flat_at {α : Type} (enc : α → List Value) (s : Nat) (hs : ∀ x, (enc x).length = s) : ∀ (L : List α) (k : Nat) (x : α) (i : Nat), L[k]? = some x → i < s → (L.flatMap enc)[k * s + i]? = (enc x)[i]? := by
  intro L
  induction L with
  | nil => intro k x i h; simp at h
  | cons y r ih =>
    intro k x i h hi
    rw [List.flatMap_cons]
    cases k with
    | zero =>
      simp at h; subst h
      rw [Nat.zero_mul, Nat.zero_add, List.getElem?_append_left (by rw [hs]; exact hi)]
    | succ k =>
      rw [List.getElem?_append_right (by rw [hs, Nat.add_mul]; omega), hs, show (k + 1) * s + i - s = k * s + i by rw [Nat.add_mul]; omega]
      exact ih k x i (by simpa using h) hi
def cellsK (L : List Kd) : List Value := L.flatMap Kd.cells
def cellsF (L : List Fd) : List Value := L.flatMap Fd.cells
def cellsS (L : List Nm) : List Value := L.map fun n => .string (bs n)
theorem cellsK_len (L : List Kd) : (cellsK L).length = L.length * 3 := flat_len _ 3 (fun _ => rfl) L
theorem cellsF_len (L : List Fd) : (cellsF L).length = L.length * 4 := flat_len _ 4 (fun _ => rfl) L
theorem cellsS_len (L : List Nm) : (cellsS L).length = L.length * 1 := by simp [cellsS]
theorem cellsK_app (L M : List Kd) : cellsK (L ++ M) = cellsK L ++ cellsK M := by simp [cellsK]
theorem cellsF_app (L M : List Fd) : cellsF (L ++ M) = cellsF L ++ cellsF M := by simp [cellsF]
theorem cellsS_app (L M : List Nm) : cellsS (L ++ M) = cellsS L ++ cellsS M := by simp [cellsS]
def OneK (L : List Kd) : Prop := ∀ k ∈ L, k.vo.oneCell' = true ∧ k.vf.oneCell' = true
theorem IsS.one {w : World} {v : Value} {l : List Nm} (h : IsS w v l) : v.oneCell' = true := by
  rcases h with ⟨ao, c, rfl, _⟩ | ⟨b, off, cap, rfl, _⟩ <;> rfl
theorem IsF.one {w : World} {v : Value} {l : List Fd} (h : IsF w v l) : v.oneCell' = true := by
  rcases h with ⟨ao, c, rfl, _⟩ | ⟨b, off, cap, rfl, _⟩ <;> rfl
theorem Parts.one {w : World} {L : List Kd} (h : Parts w L) : OneK L := fun k hk => ⟨(h k hk).1.one, (h k hk).2.one⟩
theorem cellsK_one {L : List Kd} (h : OneK L) : ∀ u ∈ cellsK L, u.oneCell' = true := by
  intro u hu
  obtain ⟨p, hm, hp⟩ := List.mem_flatMap.1 hu
  simp [Kd.cells] at hp
  rcases hp with rfl | rfl | rfl
  · rfl
  · exact (h p hm).1
  · exact (h p hm).2
theorem cellsF_one (L : List Fd) : ∀ u ∈ cellsF L, u.oneCell' = true := by
  intro u hu
  obtain ⟨p, hm, hp⟩ := List.mem_flatMap.1 hu
  simp [Fd.cells] at hp
  rcases hp with rfl | rfl | rfl | rfl <;> rfl
theorem cellsS_one (L : List Nm) : ∀ u ∈ cellsS L, u.oneCell' = true := by
  intro u hu
  obtain ⟨p, hm, rfl⟩ := List.mem_map.1 hu
  rfl
theorem info61 : (Tryz.prog.info? 30).map (fun i => (i.zero, i.size, i.bytes)) = some (some (.agg #[.string ⟨#[]⟩, .slice none 0 0, .slice none 0 0]), 3, 64) := by kernel_rfl
theorem info59 : (Tryz.prog.info? 56).map (fun i => (i.zero, i.size, i.bytes)) = some (some (.agg #[.string ⟨#[]⟩, .int .i64 0, .bool false, .bool false]), 4, 32) := by kernel_rfl
theorem info9 : (Tryz.prog.info? 9).map (fun i => (i.zero, i.size, i.bytes)) = some (some (.string ⟨#[]⟩), 1, 16) := by kernel_rfl
theorem own_isK {w : World} {base : Nat} {v : Value} {M : List Kd} (h : w.ownsRow base 30 3 v M.length (cellsK M)) : IsK w v M := by
  have hc : ∀ g, v.ownBlock = some g → ∀ j u, (cellsK M)[j]? = some u → w.cell? ((⟨g, 0, none⟩ : Addr).add j) = some u := fun g hg => h.cells hg
  rcases h.2 with ⟨rfl, h0⟩ | ⟨g, cap, cur, rfl, hb, hg, hle, hcm, hcs, ht⟩
  · exact .inl ⟨rfl, List.eq_nil_of_length_eq_zero h0⟩
  · refine .inr ⟨g, 0, cap, rfl, hle, hcm, (Array.getElem?_eq_some_iff.1 hg).1, fun k p hp => ?_⟩
    have hat := flat_at Kd.cells 3 (fun _ => rfl) M k p
    have hc' := hc g rfl
    have d0 := hc' _ _ ((hat 0 hp (by decide)).trans rfl)
    have d1 := hc' _ _ ((hat 1 hp (by decide)).trans rfl)
    have d2 := hc' _ _ ((hat 2 hp (by decide)).trans rfl)
    rw [Addr.add_lit] at d0 d1 d2
    exact ⟨d0, by rw [Nat.add_assoc]; exact d1, by rw [Nat.add_assoc]; exact d2⟩
theorem own_isF {w : World} {base : Nat} {v : Value} {M : List Fd} (h : w.ownsRow base 56 4 v M.length (cellsF M)) : IsF w v M := by
  have hc : ∀ g, v.ownBlock = some g → ∀ j u, (cellsF M)[j]? = some u → w.cell? ((⟨g, 0, none⟩ : Addr).add j) = some u := fun g hg => h.cells hg
  rcases h.2 with ⟨rfl, h0⟩ | ⟨g, cap, cur, rfl, hb, hg, hle, hcm, hcs, ht⟩
  · exact .inl ⟨none, 0, rfl, List.eq_nil_of_length_eq_zero h0, by decide, fun _ => rfl⟩
  · refine .inr ⟨g, 0, cap, rfl, hle, hcm, (Array.getElem?_eq_some_iff.1 hg).1, fun k p hp => ?_⟩
    have hat := flat_at Fd.cells 4 (fun _ => rfl) M k p
    have hc' := hc g rfl
    have d0 := hc' _ _ ((hat 0 hp (by decide)).trans rfl)
    have d1 := hc' _ _ ((hat 1 hp (by decide)).trans rfl)
    have d2 := hc' _ _ ((hat 2 hp (by decide)).trans rfl)
    have d3 := hc' _ _ ((hat 3 hp (by decide)).trans rfl)
    rw [Addr.add_lit] at d0 d1 d2 d3
    exact ⟨d0, by rw [Nat.add_assoc]; exact d1, by rw [Nat.add_assoc]; exact d2, by rw [Nat.add_assoc]; exact d3⟩
theorem own_isS {w : World} {base : Nat} {v : Value} {M : List Nm} (h : w.ownsRow base 9 1 v M.length (cellsS M)) : IsS w v M := by
  have hc : ∀ g, v.ownBlock = some g → ∀ j u, (cellsS M)[j]? = some u → w.cell? ((⟨g, 0, none⟩ : Addr).add j) = some u := fun g hg => h.cells hg
  rcases h.2 with ⟨rfl, h0⟩ | ⟨g, cap, cur, rfl, hb, hg, hle, hcm, hcs, ht⟩
  · exact .inl ⟨none, 0, rfl, List.eq_nil_of_length_eq_zero h0, by decide, fun _ => rfl⟩
  · refine .inr ⟨g, 0, cap, rfl, hle, hcm, (Array.getElem?_eq_some_iff.1 hg).1, fun k p hp => ?_⟩
    have d0 := hc g rfl k (.string (bs p)) (by simp [cellsS, hp])
    rw [Addr.add_lit] at d0
    exact d0
theorem own_sliceC {w : World} {base : Nat} {e : TypeId} {size : Nat} {v : Value} {n : Nat} {xs : List Value} (h : w.ownsRow base e size v n xs) : ∃ ao cp, v = .slice ao n cp := by
  rcases h.2 with ⟨rfl, rfl⟩ | ⟨g, cap, cur, rfl, _⟩
  · exact ⟨none, 0, rfl⟩
  · exact ⟨_, _, rfl⟩
theorem own_baseC {w : World} {base base' : Nat} {e : TypeId} {size : Nat} {v : Value} {n : Nat} {xs : List Value} (h : w.ownsRow base e size v n xs) (hb : base' ≤ base) : w.ownsRow base' e size v n xs := by
  refine ⟨h.1, ?_⟩
  rcases h.2 with h | ⟨g, cap, cur, hv, hg, rest⟩
  · exact .inl h
  · exact .inr ⟨g, cap, cur, hv, Nat.le_trans hb hg, rest⟩
theorem own_apartC {w : World} {base base' : Nat} {e e' : TypeId} {size size' : Nat} {v v' : Value} {n n' : Nat} {xs xs' : List Value} (h : w.ownsRow base e size v n xs) (h' : w.ownsRow base' e' size' v' n' xs') (hne : e ≠ e') :
    v.ownBlock = none ∨ v.ownBlock ≠ v'.ownBlock := by
  rcases h.2 with ⟨rfl, _⟩ | ⟨g, cap, cur, rfl, hb, hg, _⟩
  · exact .inl rfl
  · right
    rcases h'.2 with ⟨rfl, _⟩ | ⟨g', cap', cur', rfl, hb', hg', _⟩
    · intro h; cases h
    · intro e1
      have e2 : g = g' := by simpa [Value.ownBlock] using e1
      subst e2
      rw [hg] at hg'
      injection hg' with e3
      injection e3 with _ e4 _
      exact hne e4
theorem own_lit {w : World} {e : TypeId} {size : Nat} (cur : Array Value) (n : Nat) (hs : cur.size = n * size) (hm : n ≤ maxLen) : (w.alloc (.cells cur e)).ownsRow w.heap.size e size (.slice (some ⟨w.heap.size, 0, none⟩) n n) n cur.toList :=
  ⟨by simpa using hs, .inr ⟨w.heap.size, n, cur, rfl, Nat.le_refl _, heap_alloc_new w _, Nat.le_refl _, hm, hs, List.take_of_length_le (by simp; omega)⟩⟩
theorem new_atC (w : World) (l : List Value) (e : TypeId) : ∀ j u, l[j]? = some u → (w.alloc (.cells l.toArray e)).cell? ((⟨w.heap.size, 0, none⟩ : Addr).add j) = some u := by
  intro j u hu
  rw [Addr.add_lit, Nat.zero_add, World.cell?_alloc_at (w := w) l.toArray e w.heap.size j rfl]
  simpa using hu
def one1 (v : Value) : Value := if v.oneCell' = true then v else .nilIface
theorem one1_one (v : Value) : (one1 v).oneCell' = true := by unfold one1; split <;> first | assumption | rfl
theorem one1_self {v : Value} (h : v.oneCell' = true) : one1 v = v := by unfold one1; rw [if_pos h]
def encK (k : Kd) : List Value := [.string (bs k.nm), one1 k.vo, one1 k.vf]
theorem encK_self {L : List Kd} (h : OneK L) : L.flatMap encK = cellsK L := by
  unfold cellsK
  induction L with
  | nil => rfl
  | cons k r ih =>
    have h1 := h k (by simp)
    rw [List.flatMap_cons, List.flatMap_cons, ih (fun x hx => h x (by simp [hx]))]
    simp [encK, Kd.cells, one1_self h1.1, one1_self h1.2]
def revRen : Go.Shelf.Ren := ⟨fun | 35 => 71 | n => n, fun | 22 => 31 | 23 => 30 | n => n, fun | n => n⟩
theorem revLays : Go.Proofs.SlLaysE0.n35 Tryz.prog revRen := {
  mixed := by kernel_rfl
  f35 := ⟨ "slices.Reverse[[]kinshape/api.Kind,kinshape/api.Kind]", by decide, Tryz.func71.trans (congrArg some (by kernel_rfl))⟩
  t0 := Tryz.underlying0
  a0 := Tryz.isAgg0
  z0 := Tryz.sizeOf0
  v0 := Tryz.zeroValue0
  t3 := Tryz.underlying3
  a3 := Tryz.isAgg3
  z3 := Tryz.sizeOf3
  v3 := Tryz.zeroValue3
  t4 := Tryz.underlying4
  a4 := Tryz.isAgg4
  z4 := Tryz.sizeOf4
  v4 := Tryz.zeroValue4
  t22 := Tryz.underlying31
  a22 := Tryz.isAgg31
  z22 := Tryz.sizeOf31
  v22 := Tryz.zeroValue31 }
theorem holds_own {w : World} {base g n cap : Nat} {e : TypeId} {size : Nat} {xs : List Value} (h : w.ownsRow base e size (.slice (some ⟨g, 0, none⟩) n cap) n xs) : Go.Sort.Holds id w g 0 xs.toArray := by
  have hc := h.cells (g := g) rfl
  rcases h.2 with ⟨h0, _⟩ | ⟨g', cap', cur, e0, hb, hg, hn, hm, hs, ht⟩
  · cases h0
  · injection e0 with e1 _ _
    injection e1 with e1
    injection e1 with e1
    subst e1
    intro j hj
    have hj' : j < xs.length := by simpa using hj
    have := hc j xs[j] (List.getElem?_eq_getElem hj')
    rw [Addr.add_lit] at this
    refine ⟨by rw [this]; simp [getElem!_pos, hj'], by simp [World.frozen?, hg]⟩
theorem own_putRow {w : World} {base g n cap q : Nat} {e : TypeId} {size : Nat} {xs ys : List Value} (h : w.ownsRow base e size (.slice (some ⟨g, 0, none⟩) n cap) n xs) (hy : ys.length = xs.length) :
    (Go.Sort.putRow id (Go.Sort.ahead w q) g 0 ys.toArray).ownsRow base e size (.slice (some ⟨g, 0, none⟩) n cap) n ys := by
  have hl := h.1
  rcases h.2 with ⟨h0, _⟩ | ⟨g', cap', cur, e0, hb, hg, hn, hm, hs, ht⟩
  · cases h0
  · injection e0 with e1 _ e3
    injection e1 with e1
    injection e1 with e1
    subst e1; subst e3
    refine ⟨by omega, .inr ⟨g, cap, Go.Sort.putCells id 0 ys.toArray cur, rfl, hb, ?_, hn, hm, by simpa [Go.Sort.putCells] using hs, ?_⟩⟩
    · simp [Go.Sort.putRow, Go.Sort.mapBlock, Go.Sort.ahead, Array.getElem?_modify, hg, Go.Sort.onCells]
    · apply List.ext_getElem?
      intro j
      rw [List.getElem?_take, Array.getElem?_toList]
      by_cases hj : j < n * size
      · have hjc : j < cur.size := by
          have := Nat.mul_le_mul_right size hn
          omega
        rw [if_pos hj]
        simp only [Go.Sort.putCells, Array.getElem?_mapIdx, Array.getElem?_eq_getElem hjc, Option.map_some]
        rw [if_pos (by simp; omega), List.getElem?_eq_getElem (by omega)]
        simp [getElem!_pos, show j < ys.length by omega]
      · rw [if_neg hj, List.getElem?_eq_none (by omega)]
theorem flatK_flat {α : Type} [Inhabited α] (enc : α → List Value) (s : Nat) (h0 : 0 < s) (hs : ∀ x, (enc x).length = s) (L : List α) : Go.Sort.flatK enc s L.toArray = (L.flatMap enc).toArray := by
  refine Go.Sort.ext_get! (by simp [flat_len enc s hs]) fun t ht => ?_
  have ht' : t < L.length * s := by simpa using ht
  rw [Go.Sort.get_flatK enc s L.toArray t (by simpa using ht')]
  have hq : t / s < L.length := (Nat.div_lt_iff_lt_mul h0).2 ht'
  have hr : t % s < s := Nat.mod_lt _ h0
  have hat := flat_at enc s hs L (t / s) L[t / s] (t % s) (List.getElem?_eq_getElem hq) hr
  rw [show t / s * s + t % s = t by rw [Nat.mul_comm]; exact Nat.div_add_mod t s] at hat
  have hl : t < (L.flatMap enc).length := by rw [flat_len enc s hs]; exact ht'
  have e1 : (L.flatMap enc).toArray[t]! = (L.flatMap enc)[t] := by rw [getElem!_pos _ t (by simpa using hl)]; simp
  have e2 : L.toArray[t / s]! = L[t / s] := by simp [getElem!_pos, hq]
  rw [e1, e2]
  rw [List.getElem?_eq_getElem hl, List.getElem?_eq_getElem (by rw [hs]; exact hr)] at hat
  rw [getElem!_pos (enc L[t / s]) (t % s) (by rw [hs]; exact hr)]
  exact (Option.some.inj hat).symm
theorem reverse_own {w : World} {base : Nat} {v : Value} {L : List Kd} (h : w.ownsRow base 30 3 v L.length (cellsK L)) (hone : OneK L) (hn : L.length ≤ 12) :
    Calls Tryz.prog 71 #[v] w fun e w' => e = .returned (.tuple #[]) ∧ w'.ownsRow base 30 3 v L.length (cellsK L.reverse) ∧ (∀ B w0, Below B w0 w → B ≤ base → Below B w0 w') := by
  have hh := h
  rcases h.2 with ⟨rfl, h0⟩ | ⟨g, cap, cur, rfl, hb, hg, hle, hcm, hcs, ht⟩
  · obtain rfl := List.eq_nil_of_length_eq_zero h0
    refine (AnyQ.slices_Reverse_empty revLays none 0 w).mono ?_
    rintro e w' ⟨rfl, rfl⟩
    exact ⟨rfl, hh, fun B w0 hB _ => hB⟩
  · haveI : Inhabited Kd := ⟨⟨[], [], [], .nilIface, .nilIface⟩⟩
    have hone' : OneK L.reverse := fun k hk => hone k (by simpa using hk)
    have hH : Go.Sort.HoldsK encK 3 w g 0 L.toArray := by
      unfold Go.Sort.HoldsK
      rw [flatK_flat encK 3 (by decide) (fun _ => rfl), encK_self hone]
      exact holds_own hh
    have c := AnyQ.slices_Reverse revLays 3 Tryz.isAgg30 Tryz.sizeOf30 encK (fun _ => rfl) (fun x u hu => by
      simp [encK] at hu
      rcases hu with rfl | rfl | rfl
      · rfl
      · exact one1_one _
      · exact one1_one _) g 0 cap L.toArray w hH (by simp; omega)
    have c' : Calls Tryz.prog 71 #[.slice (some ⟨g, 0, none⟩) L.length cap] w fun e w' => e = .returned (.tuple #[]) ∧ ∃ n, w' = Go.Sort.putRowK encK 3 (Go.Sort.ahead w n) g 0 L.toArray.reverse := c
    refine c'.mono ?_
    rintro e w' ⟨rfl, q, rfl⟩
    have e1 : Go.Sort.putRowK encK 3 (Go.Sort.ahead w q) g 0 L.toArray.reverse = Go.Sort.putRow id (Go.Sort.ahead w q) g 0 (cellsK L.reverse).toArray := by
      unfold Go.Sort.putRowK
      rw [show L.toArray.reverse = L.reverse.toArray by simp, flatK_flat encK 3 (by decide) (fun _ => rfl), encK_self hone']
    rw [e1]
    exact ⟨rfl, own_putRow hh (by rw [cellsK_len, cellsK_len]; simp), fun B w0 hB hBb => Lib.below_putRow hB (Nat.le_trans hBb hb)⟩
end Go.Proofs.YtahamkajkkkjdaaGreatDoor
