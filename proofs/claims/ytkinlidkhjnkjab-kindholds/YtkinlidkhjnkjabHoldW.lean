/-
  The law KindHolds of the program: its walk.
-/
import Derived.Test.YtkinlidkhjnkjabHoldM
import Derived.Deep.DeepCutAuto
namespace Go.Proofs.Ytkinlidkhjnkjab
open Go.RowKit
set_option linter.unusedVariables false
set_option linter.unusedSimpArgs false

set_option maxHeartbeats 4000000 in
set_option maxRecDepth 100000 in
theorem in_some (b off cap : Nat) (L : List Nm) (s : Nm) (w : World) (hL : LiesS w b off L) (hn : L.length ≤ 1000) :
    Calls Try.prog 6 #[.slice (some ⟨b, off, none⟩) L.length cap, .string (bs s)] w fun e w' => e = .returned (.bool (hasN L s)) ∧ w' = w := by
  go_enter Try.func6, Try.ntmps6
  go_wp2
  go_loop [5] (fun i => ∃ k : Nat, k ≤ L.length ∧ i = .int .i64 k ∧ hasN L s = hasN (L.drop k) s) (fun i => L.length - (intOf i).toNat)
  case atStart => exact ⟨0, Nat.zero_le _, rfl, rfl⟩
  case round =>
    obtain ⟨k, hk, rfl, hi⟩ := hrel
    have HI : Hid (hasN L s = hasN (L.drop k) s) := hi
    clear hi
    by_cases hlt : k < L.length
    · obtain ⟨p, hp⟩ : ∃ p, L[k]? = some p := ⟨L[k], by simp [hlt]⟩
      have c0 := hL k p hp
      have HD : Hid (L.drop k = p :: L.drop (k + 1)) := dropK hp
      clear hp hL
      by_cases hq : (p == s) = true
      · have H : Hid (hasN L s = true) := by
          show _ = _
          rw [HI.out, HD.out]
          have : p = s := by simpa using hq
          unfold hasN; simp [this]
        have hq2 : ((bs p).toList == (bs s).toList) = true := by simpa using hq
        clear HI HD
        go_wp2
        go_ret
        exact ⟨ret_v (by rw [H.out]; rfl), rfl⟩
      · have H : Hid (hasN L s = hasN (L.drop (k + 1)) s) := by
          show _ = _
          rw [HI.out, HD.out]
          have : ¬ s = p := fun e => hq (by simp [e])
          unfold hasN; simp [this]
        have hq' : (p == s) = false := by simpa using hq
        clear HI HD hq
        go_wp2
        go_round
        case rel => exact ⟨k + 1, by omega, by go_num, H.out⟩
        case measure => simp [intOf]; omega
    · have hd : L.drop k = [] := List.drop_eq_nil_of_le (by omega)
      have H : Hid (hasN L s = false) := by
        show _ = _
        rw [HI.out, hd]; rfl
      clear HI hd hL
      go_wp2
      go_ret
      exact ⟨ret_v (by rw [H.out]; rfl), rfl⟩
set_option maxHeartbeats 1000000 in
theorem in_nil (ao : Option Addr) (c : Nat) (s : Nm) (w : World) : Calls Try.prog 6 #[.slice ao 0 c, .string (bs s)] w fun e w' => e = .returned (.bool false) ∧ w' = w := by
  go_enter Try.func6, Try.ntmps6
  go_wp2
  go_loop [5] (fun i => i = .int .i64 0) (fun i => 0)
  case atStart => rfl
  case round =>
    obtain rfl := hrel
    go_wp2
    go_ret
    exact ⟨rfl, rfl⟩
theorem in_any {v : Value} {L : List Nm} {w : World} (h : IsS w v L) (hn : L.length ≤ 1000) (s : Nm) :
    Calls Try.prog 6 #[v, .string (bs s)] w fun e w' => e = .returned (.bool (hasN L s)) ∧ w' = w := by
  rcases h with ⟨ao, c, rfl, rfl, _⟩ | ⟨b, off, cap, rfl, hcap, hm, hb, hl⟩
  · exact in_nil ao c s w
  · exact in_some b off cap L s w hl hn

/-- The two kinds that the law begins with. -/
def two (s : Nat) : List Kd := [⟨[97], [], [⟨[120], 1, false, false⟩], .slice none 0 0, .slice (some ⟨s, 0, none⟩) 1 1⟩, ⟨[98], [[97]], [], .slice (some ⟨s + 1, 0, none⟩) 1 1, .slice none 0 0⟩]
theorem two_err (s : Nat) : decide (nmErr (two s) [98] = 0) = true := by kernel_rfl
theorem two_fields (s : Nat) : fields (two s) [98] = [⟨[120], 1, false, false⟩] := by kernel_rfl
/-- What is laid for them. -/
def twoW (w : World) : World := ((w.alloc (.cells #[.string ⟨#[120]⟩, .int .i64 1, .bool false, .bool false] 24)).alloc (.cells #[.string ⟨#[97]⟩] 9)).alloc (.cells #[.string ⟨#[97]⟩, .slice none 0 0, .slice (some ⟨w.heap.size, 0, none⟩) 1 1, .string ⟨#[98]⟩, .slice (some ⟨w.heap.size + 1, 0, none⟩) 1 1, .slice none 0 0] 28)
theorem two_below (w : World) : Below w.heap.size w (twoW w) := b_alloc (b_alloc (b_alloc (Below.refl _ _) (Nat.le_refl _) _) (Nat.le_refl _) _) (Nat.le_refl _) _
theorem two_k (w : World) : (twoW w).heap[w.heap.size + 1 + 1]? = some (.cells #[.string ⟨#[97]⟩, .slice none 0 0, .slice (some ⟨w.heap.size, 0, none⟩) 1 1, .string ⟨#[98]⟩, .slice (some ⟨w.heap.size + 1, 0, none⟩) 1 1, .slice none 0 0] 28 (0, 0)) := by
  have := heap_alloc_new ((w.alloc (.cells #[.string ⟨#[120]⟩, .int .i64 1, .bool false, .bool false] 24)).alloc (.cells #[.string ⟨#[97]⟩] 9)) (.cells #[.string ⟨#[97]⟩, .slice none 0 0, .slice (some ⟨w.heap.size, 0, none⟩) 1 1, .string ⟨#[98]⟩, .slice (some ⟨w.heap.size + 1, 0, none⟩) 1 1, .slice none 0 0] 28 (0, 0))
  rw [show ((w.alloc (.cells #[.string ⟨#[120]⟩, .int .i64 1, .bool false, .bool false] 24)).alloc (.cells #[.string ⟨#[97]⟩] 9)).heap.size = w.heap.size + 1 + 1 by simp] at this
  exact this
theorem two_s (w : World) : (twoW w).heap[w.heap.size + 1]? = some (.cells #[.string ⟨#[97]⟩] 9 (0, 0)) := by
  unfold twoW
  rw [Below.heap_alloc _ _ _ (by simp)]
  have := heap_alloc_new (w.alloc (.cells #[.string ⟨#[120]⟩, .int .i64 1, .bool false, .bool false] 24)) (.cells #[.string ⟨#[97]⟩] 9 (0, 0))
  rw [show (w.alloc (.cells #[.string ⟨#[120]⟩, .int .i64 1, .bool false, .bool false] 24)).heap.size = w.heap.size + 1 by simp] at this
  exact this
theorem two_f (w : World) : (twoW w).heap[w.heap.size]? = some (.cells #[.string ⟨#[120]⟩, .int .i64 1, .bool false, .bool false] 24 (0, 0)) := by
  unfold twoW
  rw [Below.heap_alloc _ _ _ (by simp; omega), Below.heap_alloc _ _ _ (by simp)]
  exact heap_alloc_new w _
theorem two_is (w : World) : IsK (twoW w) (.slice (some ⟨w.heap.size + 1 + 1, 0, none⟩) 2 2) (two w.heap.size) := by
  refine .inr ⟨w.heap.size + 1 + 1, 0, 2, rfl, Nat.le_refl _, by decide, (Array.getElem?_eq_some_iff.1 (two_k w)).1, ?_⟩
  intro i k hk
  match i, hk with
  | 0, hk => simp [two] at hk; subst hk; refine ⟨?_, ?_, ?_⟩ <;> rw [cell_of_row _ _ _ _ 28 (0, 0) (two_k w)] <;> rfl
  | 1, hk => simp [two] at hk; subst hk; refine ⟨?_, ?_, ?_⟩ <;> rw [cell_of_row _ _ _ _ 28 (0, 0) (two_k w)] <;> rfl
  | i + 2, hk => simp [two] at hk
theorem two_parts (w : World) : Parts (twoW w) (two w.heap.size) := by
  intro k hk
  simp [two] at hk
  rcases hk with rfl | rfl
  · refine ⟨.inl ⟨none, 0, rfl, rfl, by decide, fun _ => rfl⟩, .inr ⟨w.heap.size, 0, 1, rfl, Nat.le_refl _, by decide, (Array.getElem?_eq_some_iff.1 (two_f w)).1, ?_⟩⟩
    intro i f hf
    match i, hf with
    | 0, hf => simp at hf; subst hf; refine ⟨?_, ?_, ?_, ?_⟩ <;> rw [cell_of_row _ _ _ _ 24 (0, 0) (two_f w)] <;> rfl
    | i + 1, hf => simp at hf
  · refine ⟨.inr ⟨w.heap.size + 1, 0, 1, rfl, Nat.le_refl _, by decide, (Array.getElem?_eq_some_iff.1 (two_s w)).1, ?_⟩, .inl ⟨none, 0, rfl, rfl, by decide, fun _ => rfl⟩⟩
    intro i f hf
    match i, hf with
    | 0, hf => simp at hf; subst hf; rw [cell_of_row _ _ _ _ 9 (0, 0) (two_s w)]; rfl
    | i + 1, hf => simp at hf
theorem two_sz (s : Nat) : SzK (two s) := by
  intro k hk
  simp [two] at hk
  rcases hk with rfl | rfl
  · exact ⟨by show (1 : Nat) ≤ maxLen; decide, fun f hf => by simp at hf; subst hf; show (1 : Nat) ≤ maxLen; decide⟩
  · exact ⟨by show (1 : Nat) ≤ maxLen; decide, fun f hf => by simp at hf⟩

/-- A list of fields as a value: how long it is, and where each stands. -/
theorem isF_view {w : World} {v : Value} {l : List Fd} (h : IsF w v l) : ∃ ao c, v = .slice ao l.length c ∧ ∀ j g, l[j]? = some g → ∃ b o, ao = some ⟨b, o, none⟩ ∧ b < w.heap.size ∧ w.cell? ⟨b, o + j * 4, none⟩ = some (.string (bs g.nm)) ∧ w.cell? ⟨b, o + j * 4 + 1, none⟩ = some (.int .i64 g.t) ∧ w.cell? ⟨b, o + j * 4 + 2, none⟩ = some (.bool g.must) ∧ w.cell? ⟨b, o + j * 4 + 3, none⟩ = some (.bool g.key) := by
  rcases h with ⟨ao, c, rfl, rfl, _⟩ | ⟨b, off, cap, rfl, hc, hm, hb, hl⟩
  · exact ⟨ao, c, rfl, fun j g hg => by simp at hg⟩
  · exact ⟨_, _, rfl, fun j g hg => ⟨b, off, rfl, hb, hl j g hg⟩⟩
/-- One of them is the same. -/
def anyF (l : List Fd) (f : Fd) : Bool := l.any fun g => feq g f
theorem anyF_snoc {l : List Fd} {f g : Fd} {j : Nat} (hg : l[j]? = some g) : anyF (l.take (j + 1)) f = (anyF (l.take j) f || feq g f) := by
  unfold anyF
  rw [takeK hg, List.any_append]; simp
theorem anyF_mem {l : List Fd} {f : Fd} (h : f ∈ l) : anyF l f = true := by
  unfold anyF
  rw [List.any_eq_true]
  exact ⟨f, h, (feq_iff f f).2 rfl⟩
/-- Where two fields part. -/
theorem feq_parts {g f : Fd} (h : feq g f = false) : (g.nm == f.nm) = false ∨ (g.nm = f.nm ∧ ((g.t == f.t) = false ∨ (g.t = f.t ∧ ((g.must = true ∧ f.must = false) ∨ (g.must = false ∧ f.must = true) ∨ (g.must = f.must ∧ ((g.key = true ∧ f.key = false) ∨ (g.key = false ∧ f.key = true))))))) := by
  by_cases hn : g.nm = f.nm
  · right
    refine ⟨hn, ?_⟩
    by_cases ht : g.t = f.t
    · right
      refine ⟨ht, ?_⟩
      unfold feq at h
      rw [hn, ht] at h
      revert h
      cases g.must <;> cases f.must <;> cases g.key <;> cases f.key <;> simp
    · left; simpa using ht
  · left; simpa using hn

set_option maxHeartbeats 16000000 in
set_option maxRecDepth 100000 in
theorem hold_walk (v : Value) (L : List Kd) (a b c : Nm) (w : World) (h : IsK w v L) (hP : Parts w L) (hz : SzK L) :
    Calls Try.prog 3 #[v, .string (bs a), .string (bs b), .string (bs c)] w fun e w' => e = .returned (.bool true) ∧ Below w.heap.size w w' := by
  have cf : Calls Try.prog 4 #[.slice (some ⟨w.heap.size + 1 + 1, 0, none⟩) 2 2, .string ⟨#[98]⟩] (twoW w) (FsPost (twoW w) (two w.heap.size) [98]) := fields_any (two_is w) (two_parts w) (two_sz _) [98]
  have HH : Hid (IsK w v L ∧ Parts w L ∧ SzK L) := ⟨h, hP, hz⟩
  have HT : Hid (nmErr (two w.heap.size) [98] = 0 ∧ fields (two w.heap.size) [98] = [⟨[120], 1, false, false⟩] ∧ Below w.heap.size w (twoW w)) := ⟨of_decide_eq_true (two_err _), two_fields _, two_below w⟩
  clear h hP hz
  go_enter Try.func3, Try.ntmps3
  go_wp2_with (go_at_call 4; refine Calls.mono (R := FsPost (twoW w) (two w.heap.size) [98]) cf ?_; rintro e W1 ⟨v1, rfl, hown1, hno1, hB1⟩; refine Hid.out ?_)
  refine Lib.hid ?_
  obtain ⟨ho1, _, _⟩ := hown1 HT.out.1
  rw [HT.out.2.1] at ho1
  rw [HT.out.1, errV_0]
  rcases own_isF ho1 with ⟨_, _, rfl, h0, _⟩ | ⟨bq, oq, cq, rfl, hcq, hcqm, hbq, hlq⟩
  · cases h0
  obtain ⟨q0, _⟩ := hlq 0 _ rfl
  have q0a : W1.cell? ⟨bq, oq, none⟩ = some (.string (bs [120])) := by simpa using q0
  have q0' : W1.cell? ⟨bq, oq, none⟩ = some (.string ⟨#[120]⟩) := q0a
  have hBw1 : Below w.heap.size w W1 := HT.out.2.2.trans (hB1.mono HT.out.2.2.size)
  have c1 := kin_any (HH.out.1.on hBw1) (HH.out.2.1.on hBw1) HH.out.2.2 a
  rw [show ([⟨[120], 1, false, false⟩] : List Fd).length = 1 from rfl]
  clear cf hown1 hno1 ho1 hlq q0 q0a HT hcq hcqm
  by_cases e1 : nmErr L a = 0
  · go_wp2_with (go_at_call 5; refine c1.mono ?_; rintro e W2 ⟨v2, rfl, hown2, hno2, hB2⟩; refine Hid.out ?_)
    refine Lib.hid ?_
    have ho2 := hown2 e1
    have hBw2 := on1 hBw1 hB2 (Nat.le_refl _)
    have hkl : (nms (kin L a)).length ≤ 12 := by
      have h1 := (kinOf_sub (L.take (nmAt L a + 1))).2
      have h2 := (nmErr_zero e1).2.1
      unfold nms kin
      simp at h1 ⊢
      omega
    first | rw [e1, errV_0] | rw [errV_0]
    have HE : Hid (nmErr L a = 0 ∧ (nms (kin L a)).length ≤ 12) := ⟨e1, hkl⟩
    have cin := in_any (own_isS ho2) (by omega) a
    rw [self_mem e1] at cin
    rcases own_isS ho2 with ⟨_, _, rfl, h0, _⟩ | ⟨bk, ok, ck, rfl, hck, hckm, hbk, hlk⟩
    · exfalso
      have := self_mem e1
      rw [h0] at this
      unfold hasN at this
      simp at this
    have HK : Hid (LiesS W2 bk ok (nms (kin L a)) ∧ bk < W2.heap.size) := ⟨hlk, hbk⟩
    obtain ⟨nk, hnk⟩ : ∃ nk, nk = (nms (kin L a)).length := ⟨_, rfl⟩
    have HN : Hid (nk = (nms (kin L a)).length) := hnk
    rw [← hnk] at cin hkl ⊢
    clear c1 hown2 hno2 ho2 hlk hbk hck hckm hnk q0' e1
    go_wp2_with (go_at_call 6; refine cin.mono ?_; rintro e W2' ⟨rfl, rfl⟩; refine Hid.out ?_)
    refine Lib.hid ?_
    clear cin
    have ci1 := is_any (HH.out.1.on hBw2) (HH.out.2.1.on hBw2) HH.out.2.2 a b
    go_wp2_with (go_at_call 7; refine ci1.mono ?_; rintro e W3 ⟨rfl, hB3⟩; refine Hid.out ?_)
    refine Lib.hid ?_
    have hBw3 := on1 hBw2 hB3 (Nat.le_refl _)
    have ci2 := is_any (HH.out.1.on hBw3) (HH.out.2.1.on hBw3) HH.out.2.2 b c
    clear ci1
    go_wp2_with (go_at_call 7; refine ci2.mono ?_; rintro e W4 ⟨rfl, hB4⟩; refine Hid.out ?_)
    refine Lib.hid ?_
    have hBw4 := on1 hBw3 hB4 (Nat.le_refl _)
    have ci3 := is_any (HH.out.1.on hBw4) (HH.out.2.1.on hBw4) HH.out.2.2 a c
    clear ci2
    go_wp2_with (go_at_call 7; refine ci3.mono ?_; rintro e W5 ⟨rfl, hB5⟩; refine Hid.out ?_)
    refine Lib.hid ?_
    have hBw5 := on1 hBw4 hB5 (Nat.le_refl _)
    have hB25 : Below W2'.heap.size W2' W5 := on1 (on1 hB3 hB4 (Nat.le_refl _)) hB5 (Nat.le_refl _)
    have HB5 : Hid (Below w.heap.size w W5 ∧ Below W2'.heap.size W2' W5) := ⟨hBw5, hB25⟩
    have HT3 : Hid (isErr L a b = 0 → isErr L b c = 0 → isErr L a c = 0 → isKin L a b = true → isKin L b c = true → isKin L a c = true) := fun h1 h2 h3 k1 k2 => is_trans h1 h2 h3 k1 k2
    generalize isErr L a b = i1 at HT3 ⊢
    generalize isErr L b c = i2 at HT3 ⊢
    generalize isErr L a c = i3 at HT3 ⊢
    generalize isKin L a b = k1 at HT3 ⊢
    generalize isKin L b c = k2 at HT3 ⊢
    generalize isKin L a c = k3 at HT3 ⊢
    obtain ⟨E1, hE1⟩ : ∃ E, E = errV i1 := ⟨_, rfl⟩
    obtain ⟨E2, hE2⟩ : ∃ E, E = errV i2 := ⟨_, rfl⟩
    obtain ⟨E3, hE3⟩ : ∃ E, E = errV i3 := ⟨_, rfl⟩
    rw [← hE1, ← hE2, ← hE3]
    have HE3 : Hid (E1 = errV i1 ∧ E2 = errV i2 ∧ E3 = errV i3) := ⟨hE1, hE2, hE3⟩
    clear hE1 hE2 hE3
    clear ci3 hB2 hB3 hB4 hB5 hBw1 hBw2 hBw3 hBw4 hBw5 hB25 hB1
    go_upto_region 14 with fail
    go_cut [109] (fun s wx => s = .bool false ∧ wx = W5)
    case first =>
      by_cases j1 : i1 = 0
      · have t1 : E1 = .nilIface := by rw [HE3.out.1, j1, errV_0]
        by_cases j2 : i2 = 0
        · have t2 : E2 = .nilIface := by rw [HE3.out.2.1, j2, errV_0]
          by_cases j3 : i3 = 0
          · have t3 : E3 = .nilIface := by rw [HE3.out.2.2, j3, errV_0]
            have ht := HT3.out j1 j2 j3
            clear HT3 HE3
            subst t1; subst t2; subst t3
            cases k1 with
            | false =>
              clear ht
              go_wp2
              go_meet
              exact ⟨rfl, rfl⟩
            | true =>
              cases k2 with
              | false =>
                clear ht
                go_wp2
                go_meet
                exact ⟨rfl, rfl⟩
              | true =>
                obtain rfl := ht rfl rfl
                clear ht
                go_wp2
                go_meet
                exact ⟨rfl, rfl⟩
          · have t3 : E3 = .iface 44 (.int .i64 i3) := by rw [HE3.out.2.2, errV_ne j3]
            clear HT3 HE3
            subst t1; subst t2; subst t3
            go_wp2
            go_meet
            exact ⟨rfl, rfl⟩
        · have t2 : E2 = .iface 44 (.int .i64 i2) := by rw [HE3.out.2.1, errV_ne j2]
          clear HT3 HE3
          subst t1; subst t2
          go_wp2
          go_meet
          exact ⟨rfl, rfl⟩
      · have t1 : E1 = .iface 44 (.int .i64 i1) := by rw [HE3.out.1, errV_ne j1]
        clear HT3 HE3
        subst t1
        go_wp2
        go_meet
        exact ⟨rfl, rfl⟩
    case rest =>
    obtain ⟨rfl, rfl⟩ := hcut
    clear HT3 HE3
    have cfa := fields_any (HH.out.1.on HB5.out.1) (HH.out.2.1.on HB5.out.1) HH.out.2.2 a
    go_wp2_with (go_at_call 4; refine cfa.mono ?_; rintro e W6 ⟨v6, rfl, hown6, hno6, hB6⟩; refine Hid.out ?_)
    refine Lib.hid ?_
    have e1 := HE.out.1
    obtain ⟨ho6, _, hl8⟩ := hown6 e1
    first | rw [e1, errV_0] | rw [errV_0]
    have hBw6 := on1 HB5.out.1 hB6 (Nat.le_refl _)
    have hB26 := on1 HB5.out.2 hB6 (Nat.le_refl _)
    obtain ⟨aF, cF, rfl, hvF⟩ := isF_view (own_isF ho6)
    obtain ⟨nF, hnF⟩ : ∃ nF, nF = (fields L a).length := ⟨_, rfl⟩
    rw [← hnF]
    have hnF8 : nF ≤ 8 := by omega
    have HF : Hid (nF = (fields L a).length ∧ (∀ j g, (fields L a)[j]? = some g → ∃ b o, aF = some ⟨b, o, none⟩ ∧ b < W6.heap.size ∧ W6.cell? ⟨b, o + j * 4, none⟩ = some (.string (bs g.nm)) ∧ W6.cell? ⟨b, o + j * 4 + 1, none⟩ = some (.int .i64 g.t) ∧ W6.cell? ⟨b, o + j * 4 + 2, none⟩ = some (.bool g.must) ∧ W6.cell? ⟨b, o + j * 4 + 3, none⟩ = some (.bool g.key))) := ⟨hnF, hvF⟩
    have HB6 : Hid (Below w.heap.size w W6 ∧ Below W2'.heap.size W2' W6) := ⟨hBw6, hB26⟩
    clear cfa hown6 hno6 ho6 hvF hl8 hnF hB6 hBw6 hB26 e1
    go_wp2
    go_loopw [23] (fun i wr => ∃ k : Nat, k ≤ nk ∧ i = .int .i64 k ∧ Below W6.heap.size W6 wr) (fun i _ => nk - (intOf i).toNat)
    case atStart => exact ⟨0, Nat.zero_le _, rfl, Below.refl _ _⟩
    case round =>
      obtain ⟨k, hk, rfl, hB⟩ := hrel
      by_cases hlt : k < nk
      · have hlt' : k < (nms (kin L a)).length := by rw [← HN.out]; exact hlt
        obtain ⟨n, hn⟩ : ∃ n, (nms (kin L a))[k]? = some n := ⟨(nms (kin L a))[k], by simp [hlt']⟩
        have hnm : n ∈ nms (kin L a) := List.mem_of_getElem? hn
        have en := kin_err HE.out.1 hnm
        have k0 := HK.out.1 k n hn
        have hB2r := on1 HB6.out.2 hB (Nat.le_refl _)
        have hBwr := on1 HB6.out.1 hB (Nat.le_refl _)
        have m0 := (hB2r.cell (p := ⟨bk, ok + k, none⟩) HK.out.2).trans k0
        have hbkr : bk < wr.heap.size := Nat.lt_of_lt_of_le HK.out.2 hB2r.size
        have cfn := fields_any (HH.out.1.on hBwr) (HH.out.2.1.on hBwr) HH.out.2.2 n
        have HX : Hid (n ∈ nms (kin L a) ∧ nmErr L n = 0 ∧ Below w.heap.size w wr ∧ Below W6.heap.size W6 wr ∧ k < nk) := ⟨hnm, en, hBwr, hB, hlt⟩
        clear k0 hB2r hBwr hn hnm hlt' hB
        go_wp2_with (go_at_call 4; refine cfn.mono ?_; rintro e W7 ⟨v7, rfl, hown7, hno7, hB7⟩; refine Hid.out ?_)
        refine Lib.hid ?_
        obtain ⟨ho7, _, hl7⟩ := hown7 en
        first | rw [en, errV_0] | rw [errV_0]
        obtain ⟨af, cf7, rfl, hvf⟩ := isF_view (own_isF ho7)
        obtain ⟨nf, hnf⟩ : ∃ nf, nf = (fields L n).length := ⟨_, rfl⟩
        rw [← hnf]
        have hnf8 : nf ≤ 8 := by omega
        have Hf : Hid (nf = (fields L n).length ∧ (∀ j g, (fields L n)[j]? = some g → ∃ b o, af = some ⟨b, o, none⟩ ∧ b < W7.heap.size ∧ W7.cell? ⟨b, o + j * 4, none⟩ = some (.string (bs g.nm)) ∧ W7.cell? ⟨b, o + j * 4 + 1, none⟩ = some (.int .i64 g.t) ∧ W7.cell? ⟨b, o + j * 4 + 2, none⟩ = some (.bool g.must) ∧ W7.cell? ⟨b, o + j * 4 + 3, none⟩ = some (.bool g.key))) := ⟨hnf, hvf⟩
        have m7 := (hB7.cell (p := ⟨bk, ok + k, none⟩) hbkr).trans m0
        have hBw7 := on1 HX.out.2.2.1 hB7 (Nat.le_refl _)
        have hB67 := on1 HX.out.2.2.2.1 hB7 (Nat.le_refl _)
        have cun := under_any (HH.out.1.on hBw7) (HH.out.2.1.on hBw7) HH.out.2.2 n
        clear cfn hown7 hno7 ho7 hvf hl7 hnf m0
        go_wp2_with (go_at_call 8; refine cun.mono ?_; rintro e W8 ⟨v8, rfl, hown8, hno8, hB8⟩; refine Hid.out ?_)
        refine Lib.hid ?_
        have ho8 := hown8 en
        first | rw [en, errV_0] | rw [errV_0]
        have hul : (under L n).length ≤ 1000 := by
          have h1 := unds_len L n (List.range L.length)
          have h2 := (nmErr_zero en).2.1
          unfold under
          simp at h1
          omega
        have cin2 := in_any (own_isS ho8) hul a
        rw [under_has HE.out.1 HX.out.1] at cin2
        have HB8 : Hid (Below w.heap.size w W8 ∧ Below W7.heap.size W7 W8 ∧ Below W6.heap.size W6 W7) := ⟨on1 hBw7 hB8 (Nat.le_refl _), hB8, hB67⟩
        clear cun hown8 hno8 ho8 hul m7 hB7 hB8 hBw7 hB67 en
        go_wp2_with (go_at_call 6; refine cin2.mono ?_; rintro e W8' ⟨rfl, rfl⟩; refine Hid.out ?_)
        refine Lib.hid ?_
        clear cin2
        go_wp2
        go_loopw [28] (fun i wx => ∃ m : Nat, m ≤ nf ∧ i = .int .i64 m ∧ Below W8'.heap.size W8' wx) (fun i _ => nf - (intOf i).toNat)
        case atStart => exact ⟨0, Nat.zero_le _, rfl, Below.refl _ _⟩
        case round =>
          obtain ⟨m, hm, rfl, hB⟩ := hrel
          by_cases hml : m < nf
          · have hml' : m < (fields L n).length := by rw [← Hf.out.1]; exact hml
            obtain ⟨f, hf⟩ : ∃ f, (fields L n)[m]? = some f := ⟨(fields L n)[m], by simp [hml']⟩
            obtain ⟨b7, o7, rfl, hb7, f0, f1, f2, f3⟩ := Hf.out.2 m f hf
            have hfm : f ∈ fields L n := List.mem_of_getElem? hf
            have hfa : f ∈ fields L a := fields_sub HE.out.1 HX.out.1 f hfm
            have Hfa : Hid (f ∈ fields L a ∧ Below W8'.heap.size W8' wr ∧ m < nf) := ⟨hfa, hB, hml⟩
            have Hc7 : Hid (b7 < W7.heap.size ∧ W7.cell? ⟨b7, o7 + m * 4, none⟩ = some (.string (bs f.nm)) ∧ W7.cell? ⟨b7, o7 + m * 4 + 1, none⟩ = some (.int .i64 f.t) ∧ W7.cell? ⟨b7, o7 + m * 4 + 2, none⟩ = some (.bool f.must) ∧ W7.cell? ⟨b7, o7 + m * 4 + 3, none⟩ = some (.bool f.key)) := ⟨hb7, f0, f1, f2, f3⟩
            clear hf hfm hfa hb7 f0 f1 f2 f3 hB hml'
            go_wp2
            go_loopw [29, 30] (fun hs i wx => ∃ j : Nat, j ≤ nF ∧ i = .int .i64 j ∧ hs = .bool (anyF ((fields L a).take j) f) ∧ Below W8'.heap.size W8' wx) (fun _ i _ => nF - (intOf i).toNat)
            case atStart => exact ⟨0, Nat.zero_le _, rfl, rfl, Hfa.out.2.1⟩
            case round =>
              obtain ⟨j, hj, rfl, rfl, hB⟩ := hrel
              by_cases hjl : j < nF
              · have hjl' : j < (fields L a).length := by rw [← HF.out.1]; exact hjl
                obtain ⟨g, hg⟩ : ∃ g, (fields L a)[j]? = some g := ⟨(fields L a)[j], by simp [hjl']⟩
                obtain ⟨b6, o6, rfl, hb6, g0, g1, g2, g3⟩ := HF.out.2 j g hg
                have hB7x := on1 HB8.out.2.1 hB (Nat.le_refl _)
                have hB6x := on1 HB8.out.2.2 hB7x (Nat.le_refl _)
                have x0 := (hB6x.cell (p := ⟨b6, o6 + j * 4, none⟩) hb6).trans g0
                have x1 := (hB6x.cell (p := ⟨b6, o6 + j * 4 + 1, none⟩) hb6).trans g1
                have x2 := (hB6x.cell (p := ⟨b6, o6 + j * 4 + 2, none⟩) hb6).trans g2
                have x3 := (hB6x.cell (p := ⟨b6, o6 + j * 4 + 3, none⟩) hb6).trans g3
                have y0 := (hB7x.cell (p := ⟨b7, o7 + m * 4, none⟩) Hc7.out.1).trans Hc7.out.2.1
                have y1 := (hB7x.cell (p := ⟨b7, o7 + m * 4 + 1, none⟩) Hc7.out.1).trans Hc7.out.2.2.1
                have y2 := (hB7x.cell (p := ⟨b7, o7 + m * 4 + 2, none⟩) Hc7.out.1).trans Hc7.out.2.2.2.1
                have y3 := (hB7x.cell (p := ⟨b7, o7 + m * 4 + 3, none⟩) Hc7.out.1).trans Hc7.out.2.2.2.2
                have HA : Hid (anyF ((fields L a).take (j + 1)) f = (anyF ((fields L a).take j) f || feq g f)) := anyF_snoc hg
                have hji : (j : Int) < (nF : Int) := by omega
                have hmi : (m : Int) < (nf : Int) := by omega
                have HBx : Hid (Below W8'.heap.size W8' wr) := hB
                generalize anyF ((fields L a).take j) f = ha at HA ⊢
                clear g0 g1 g2 g3 hg hjl' hB7x hB6x hB hb6
                cases ha with
                | true =>
                  have HA2 : Hid (anyF ((fields L a).take (j + 1)) f = true) := by
                    show _ = _
                    rw [HA.out]; rfl
                  clear HA
                  go_wp2_with fail
                  go_quiet (fail)
                  go_wp2
                  go_roundw
                  case rel => exact ⟨j + 1, by omega, by go_num, by rw [HA2.out], b_drewN HBx.out _⟩
                  case measure => simp [intOf]; omega
                | false =>
                  cases hfe : feq g f with
                  | true =>
                    obtain rfl := (feq_iff g f).1 hfe
                    have HA2 : Hid (anyF ((fields L a).take (j + 1)) g = true) := by
                      show _ = _
                      rw [HA.out, hfe]; rfl
                    clear HA hfe
                    go_wp2_with fail
                    go_quiet (fail)
                    go_wp2
                    go_roundw
                    case rel => exact ⟨j + 1, by omega, by go_num, by rw [HA2.out], b_drewN HBx.out _⟩
                    case measure => simp [intOf]; omega
                  | false =>
                    have HA2 : Hid (anyF ((fields L a).take (j + 1)) f = false) := by
                      show _ = _
                      rw [HA.out, hfe]; rfl
                    have hsp := feq_parts hfe
                    clear HA hfe
                    rcases hsp with hn1 | ⟨hn1, ht | ⟨ht, ⟨hm1, hm2⟩ | ⟨hm1, hm2⟩ | ⟨hm0, ⟨hm1, hm2⟩ | ⟨hm1, hm2⟩⟩⟩⟩
                    all_goals
                      go_wp2_with fail
                      go_quiet (fail)
                      go_wp2
                      go_roundw
                      case rel => exact ⟨j + 1, by omega, by go_num, by rw [HA2.out], b_drewN HBx.out _⟩
                      case measure => simp [intOf]; omega
              · have hjf : (fields L a).take j = fields L a := List.take_of_length_le (by rw [← HF.out.1]; omega)
                have hhas : anyF ((fields L a).take j) f = true := by rw [hjf]; exact anyF_mem Hfa.out.1
                rw [hhas]
                have HBx : Hid (Below W8'.heap.size W8' wr) := hB
                have hml2 := Hfa.out.2.2
                clear hjf hhas hB
                go_wp2
                go_roundw
                case rel => exact ⟨m + 1, by omega, by go_num, HBx.out⟩
                case measure => simp [intOf]; omega
          · have HBx : Hid (Below W8'.heap.size W8' wr) := hB
            have hkl2 := HX.out.2.2.2.2
            have hBx : Below W6.heap.size W6 wr := on1 (on1 HB8.out.2.2 HB8.out.2.1 (Nat.le_refl _)) hB (Nat.le_refl _)
            have HBz : Hid (Below W6.heap.size W6 wr) := hBx
            clear hB hBx
            go_wp2
            go_roundw
            case rel => exact ⟨k + 1, by omega, by go_num, HBz.out⟩
            case measure => simp [intOf]; omega
      · have HBz : Hid (Below W6.heap.size W6 wr) := hB
        clear hB
        go_wp2
        go_ret
        exact ⟨rfl, on1 HB6.out.1 HBz.out (Nat.le_refl _)⟩
  · go_wp2_with (go_at_call 5; refine c1.mono ?_; rintro e W2 ⟨v2, rfl, hown2, hno2, hB2⟩; obtain rfl := hno2 e1; refine Hid.out ?_)
    refine Lib.hid ?_
    rw [errV_ne e1]
    clear c1 hown2 hno2
    go_wp2
    go_ret
    exact ⟨rfl, on1 hBw1 hB2 (Nat.le_refl _)⟩
end Go.Proofs.Ytkinlidkhjnkjab
