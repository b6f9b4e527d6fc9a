/-
  The walk of Sum.
-/
import Derived.Test.YtodddcacngjadaaRwB
namespace Go.Proofs.Ytodddcacngjadaa
open Go.RowKit
set_option linter.unusedVariables false
set_option linter.unusedSimpArgs false

/-- The properties of a record that is right are right. -/
theorem chk_all : ∀ (L : List Pr) (o : Option Pr), chk o L = 0 → ∀ p ∈ L, nErr p.l = 0 ∧ p.bad = 0
  | [], _, _ => fun p hp => by simp at hp
  | p :: r, o, h => by
    by_cases h1 : nErr p.l = 0
    · by_cases h2 : p.bad = 0
      · have h3 : chk (some p) r = 0 := by
          cases o with
          | none => rwa [chk_first h1 h2] at h
          | some q =>
            by_cases hl : p.low q = true
            · rw [chk_low h1 h2 hl] at h; exact absurd h (by decide)
            · rwa [chk_up h1 h2 (by simpa using hl)] at h
        intro x hx
        rcases List.mem_cons.1 hx with rfl | hx
        · exact ⟨h1, h2⟩
        · exact chk_all r _ h3 x hx
      · rw [chk_bad h1 h2] at h; exact absurd h h2
    · rw [chk_name h1] at h; exact absurd h h1
theorem rErr_all {L : List Pr} (h : rErr L = 0) : ∀ p ∈ L, nErr p.l = 0 ∧ p.bad = 0 := by
  unfold rErr at h
  split at h
  · exact absurd h (by decide)
  · exact chk_all L none h
/-- What is held is right. -/
def HvOk (h : Hv) : Prop := vErr h.t h.n h.s.data.toList = 0 ∧ h.s.size ≤ maxLen ∧ ∃ a n c, h.r.rv = .slice a n c
theorem have_ok {w : World} {v : Value} {L : List Rv} (h : IsRs w v L) (hz : SzRs L) (hr : rsE L = 0) (nm : List UInt8) : ∀ x ∈ haveL nm L, HvOk x := by
  intro x hx
  unfold haveL at hx
  obtain ⟨y, hy, he⟩ := List.mem_filterMap.1 hx
  unfold hvOf at he
  obtain ⟨q, hq, rfl⟩ := Option.map_eq_some_iff.1 he
  have hm : q ∈ y.rc := List.mem_of_find?_eq_some hq
  have hb := (rErr_all (rsE_all hr y hy) q hm).2
  refine ⟨hb, ((hz y hy).1 q hm).2, ?_⟩
  obtain ⟨ao, c, rfl, h0 | ⟨b, off, rfl, hbl, hL⟩⟩ := h
  · rw [h0] at hy; simp at hy
  · obtain ⟨j, hj⟩ := List.mem_iff_getElem?.1 hy
    obtain ⟨_, a, c', e, _⟩ := hL j y hj
    exact ⟨a, _, c', e⟩
/-- Numbers that are right are small. -/
theorem num_small {n : Int} {s : List UInt8} (h : vErr 1 n s = 0) : -1000000 ≤ n ∧ n ≤ 1000000 := by
  unfold vErr at h
  rw [if_pos (.inl rfl)] at h
  split at h
  · rename_i h1; simpa [inR] using h1
  · exact absurd h (by decide)
/-- The sum behind what came ahead, and what is wrong. -/
def sumG : Int → List Hv → Int × Int
  | a, [] => (a, 0)
  | a, h :: r => if h.t = 1 then sumG (a + h.n) r else (0, 8)
def sumV (L : List Rv) (nm : List UInt8) : Int × Int := if askRE L nm = 0 then sumG 0 (haveL nm L) else (0, askRE L nm)
def LiesH (w : World) (b off : Nat) (H : List Hv) : Prop := ∀ k h, H[k]? = some h → w.cell? ⟨b, off + k * 4, none⟩ = some h.r.rv ∧ w.cell? ⟨b, off + k * 4 + 1, none⟩ = some (.int .i64 h.t) ∧ w.cell? ⟨b, off + k * 4 + 2, none⟩ = some (.int .i64 h.n) ∧ w.cell? ⟨b, off + k * 4 + 3, none⟩ = some (.string h.s)
theorem flat4 {α : Type} (f : α → List Value) (h : ∀ x, (f x).length = 4) : ∀ (L : List α) (k : Nat) (x : α) (i : Nat), L[k]? = some x → i < 4 → (L.flatMap f)[k * 4 + i]? = (f x)[i]?
  | [], k, x, i, hx, _ => by simp at hx
  | a :: r, 0, x, i, hx, hi => by
    obtain rfl : a = x := by simpa using hx
    rw [List.flatMap_cons, List.getElem?_append_left (by rw [h]; omega)]; simp
  | a :: r, k + 1, x, i, hx, hi => by
    rw [List.flatMap_cons, List.getElem?_append_right (by rw [h]; omega), h]
    have := flat4 f h r k x i (by simpa using hx) hi
    rw [← this]; congr 1; omega
def IsH (w : World) (v : Value) (H : List Hv) : Prop := ∃ ao c, v = .slice ao H.length c ∧ H.length ≤ c ∧ (H = [] ∨ ∃ b off, ao = some ⟨b, off, none⟩ ∧ b < w.heap.size ∧ LiesH w b off H)
theorem own_isH {w : World} {base : Nat} {v : Value} {H : List Hv} (h : w.ownsRow base 46 4 v H.length (cellsH H)) : IsH w v H := by
  have hc : ∀ g, v.ownBlock = some g → ∀ j u, (cellsH H)[j]? = some u → w.cell? ((⟨g, 0, none⟩ : Addr).add j) = some u := fun g hg => h.cells hg
  rcases h.2 with ⟨rfl, h0⟩ | ⟨g, cap, cur, rfl, hb, hg, hle, hcm, hcs, ht⟩
  · exact ⟨none, 0, by rw [h0], by omega, .inl (List.eq_nil_of_length_eq_zero h0)⟩
  · refine ⟨_, cap, rfl, hle, .inr ⟨g, 0, rfl, (Array.getElem?_eq_some_iff.1 hg).1, fun k p hp => ?_⟩⟩
    have hat := flat4 Hv.cells (fun _ => rfl) H k p
    have d0 := hc g rfl _ _ ((hat 0 hp (by decide)).trans rfl)
    have d1 := hc g rfl _ _ ((hat 1 hp (by decide)).trans rfl)
    have d2 := hc g rfl _ _ ((hat 2 hp (by decide)).trans rfl)
    have d3 := hc g rfl _ _ ((hat 3 hp (by decide)).trans rfl)
    rw [Addr.add_lit] at d0 d1 d2 d3
    exact ⟨d0, by rw [Nat.add_assoc]; exact d1, by rw [Nat.add_assoc]; exact d2, by rw [Nat.add_assoc]; exact d3⟩
theorem LiesH.on {w w' : World} {b off : Nat} {L : List Hv} (h : LiesH w b off L) (hb : b < w.heap.size) (hB : Below w.heap.size w w') : LiesH w' b off L := fun k x hx => by
  obtain ⟨c0, c1, c2, c3⟩ := h k x hx
  exact ⟨(hB.cell hb).trans c0, (hB.cell hb).trans c1, (hB.cell hb).trans c2, (hB.cell hb).trans c3⟩

def SuI (w : World) (H : List Hv) (a i : Value) (wr : World) : Prop := ∃ (k : Nat) (c : Int), k ≤ H.length ∧ i = .int .i64 (k : Int) ∧ a = .int .i64 c ∧ sumG 0 H = sumG c (H.drop k) ∧ (-1000000 * (k : Int) ≤ c ∧ c ≤ 1000000 * (k : Int)) ∧ Below w.heap.size w wr
set_option maxHeartbeats 4000000 in
set_option maxRecDepth 100000 in
theorem sum_any {v : Value} {L : List Rv} {w : World} (h : IsRs w v L) (hz : SzRs L) (hm : L.length ≤ maxLen) (s : ByteArray) (hs : s.size ≤ maxLen) :
    Calls Try.prog 8 #[v, .string s] w fun e w' => e = .returned (.tuple #[.int .i64 (sumV L s.data.toList).1, errV (sumV L s.data.toList).2]) ∧ Below w.heap.size w w' := by
  have c1 := checkAsked_any h hz hm s hs
  by_cases he : askRE L s.data.toList = 0
  · have hV : sumV L s.data.toList = sumG 0 (haveL s.toList L) := by unfold sumV; rw [if_pos he, Lib.toList_data]
    rw [hV]
    rw [he, errV_0] at c1
    obtain ⟨hl, hr, _⟩ := askRE_ok he
    have hok := have_ok h hz hr s.toList
    have c2 := fun (W : World) (hW : Below w.heap.size w W) => parted_any (h.on hW) hz hl hr s
    have hHl : (haveL s.toList L).length ≤ 200 := Nat.le_trans (have_len _ _) hl
    unfold PaP PaR at c2
    generalize haveL s.toList L = H at c2 hok hHl ⊢
    generalize lackL s.toList L = K at c2
    have HOK := Lib.hid hok
    clear hV he h hz hm hl hr hs hok
    go_enter Try.func8, Try.ntmps8
    go_wp2_with (first | (go_at_call 9; refine c1.mono ?_; rintro e W1 ⟨rfl, hB1⟩) | (go_at_call 10; refine (c2 W1 hB1).mono ?_; rintro e W2 ⟨vh, vl, rfl, ho1, ho2, hB2⟩; refine Hid.out ?_))
    refine Lib.hid ?_
    obtain ⟨ah, ch, rfl, hle, hcs⟩ := own_isH ho1
    have hBW := on1R hB1 hB2
    have HC := Lib.hid hcs
    clear ho1 ho2 c1 c2 hcs
    go_wp2
    go_loopw [9, 26] (fun a i wr => SuI W2 H a i wr) (fun _ i _ => H.length - (intOf i).toNat)
    case atStart => exact ⟨0, 0, Nat.zero_le _, rfl, rfl, rfl, by simp, Below.refl _ _⟩
    case round =>
      obtain ⟨k, c, hk, rfl, rfl, he, hc, hB⟩ := hrel
      have HE := Lib.hid he
      have HB := Lib.hid hB
      clear he
      by_cases hlt : k < H.length
      · obtain ⟨x, hx⟩ : ∃ x, H[k]? = some x := ⟨_, List.getElem?_eq_getElem hlt⟩
        obtain ⟨b, off, rfl, hbl, hL⟩ := HC.out.resolve_left (fun e => by rw [e] at hlt; simp at hlt)
        obtain ⟨l0, l1, l2, l3⟩ := (hL.on hbl hB) k x hx
        obtain ⟨hv, _, ra, rn, rc, hrv⟩ := HOK.out x (List.mem_of_getElem? hx)
        have hd := dropN hx
        obtain ⟨⟨xv, xc⟩, xt, xn, xs⟩ := x
        simp only at hrv l0 l1 l2 l3 hv
        subst hrv
        clear hL hB
        by_cases h1 : xt = 1
        · subst h1
          have hn := num_small hv
          have HE2 : Hid (sumG 0 H = sumG (c + xn) (H.drop (k + 1))) := by show _ = _; rw [HE.out, hd, sumG, if_pos rfl]
          have hw : IntKind.i64.wrap (c + xn) = c + xn := by rw [IntKind.wrap_i64]; omega
          have HB3 : Hid (-1000000 * ((k : Int) + 1) ≤ c + xn ∧ c + xn ≤ 1000000 * ((k : Int) + 1)) := ⟨by omega, by omega⟩
          clear hv hn hd hx hc
          go_wp2
          go_roundw
          case rel => exact ⟨k + 1, c + xn, by omega, by go_num, rfl, HE2.out, HB3.out, b_allocR HB.out _⟩
          case measure => simp [intOf]; omega
        · have hb : (xt == 1) = false := by simpa using h1
          have HE2 : Hid (sumG 0 H = (0, 8)) := by show _ = _; rw [HE.out, hd, sumG, if_neg h1]
          clear hv hd hx hc
          go_wp2
          go_ret2
          exact ⟨ret_v (by rw [HE2.out]; rfl), on1R hBW (b_allocR HB.out _)⟩
      · have HE2 : Hid (sumG 0 H = (c, 0)) := by show _ = _; rw [HE.out, List.drop_eq_nil_of_le (by omega)]; rfl
        clear hB hc
        go_wp2
        go_ret2
        exact ⟨ret_v (by rw [HE2.out]; rfl), on1R hBW HB.out⟩
  · have hV : sumV L s.data.toList = (0, askRE L s.data.toList) := by unfold sumV; rw [if_neg he]
    rw [hV]
    rw [errV_ne he] at c1
    have HE : Hid (errV (askRE L s.data.toList) = .iface 52 (.int .i64 (askRE L s.data.toList))) := errV_ne he
    generalize askRE L s.data.toList = z at c1 HE
    clear hV he h hz hm hs
    go_enter Try.func8, Try.ntmps8
    go_wp2_with (go_at_call 9; refine c1.mono ?_; rintro e W1 ⟨rfl, hB1⟩)
    go_ret2
    exact ⟨ret_v (by rw [HE.out]; rfl), hB1⟩
end Go.Proofs.Ytodddcacngjadaa
