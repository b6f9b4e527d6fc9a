/-
  Whether words may stand where names are to be: strings.ContainsAny, areNames.
-/
import Derived.Test.YtgjlonilbhlneaaGreatDoorM13
import Derived.Lib.QuoteLoop
import Derived.Lib.RuneCountTail
import Derived.Test.YtgjlonilbhlneaaGreatDoorM10
import Derived.Lib.AtoiErrMem
import Derived.Deep.RegionHeld3
import Derived.BigGuard
import Derived.Laws.ResultCell
namespace Go.Proofs.YtgjlonilbhlneaaGreatDoor
open Go.RowKit
set_option linter.unusedVariables false
set_option linter.unusedSimpArgs false

theorem get_data (s : ByteArray) (j : Nat) (b : UInt8) (h : s.data.toList[j]? = some b) : s.get! j = b := by
  have hj := (List.getElem?_eq_some_iff.1 h).1
  have hj' : j < s.data.size := by simpa using hj
  have h2 : s.data[j]? = some b := by simpa using h
  simp [ByteArray.get!, getElem!_def, h2]
theorem noAny_more {s : ByteArray} {i n : Nat} (h : Lib.NoAny s.data.toList [44, 58] i) (hn : ∀ k, k < n → 128 ≤ (s.get! (i + k)).toNat) : Lib.NoAny s.data.toList [44, 58] (i + n) := by
  intro j b hj hb
  by_cases e : j < i
  · exact h j b e hb
  · have := hn (j - i) (by omega)
    rw [show i + (j - i) = j by omega, get_data s j b hb] at this
    have h1 : ¬ b = 44 := fun e => by rw [e] at this; exact absurd this (by decide)
    have h2 : ¬ b = 58 := fun e => by rw [e] at this; exact absurd this (by decide)
    simp [h1, h2]
theorem dec_valid (s : ByteArray) (pos : Nat) : Lib.validRune ((Utf8.decode s pos).1 : Int) = true := by
  have := Lib.rune_valid (s.extract pos s.size)
  rw [Lib.tail_decode s pos 0] at this
  exact this
set_option maxHeartbeats 8000000 in
set_option maxRecDepth 100000 in
theorem idxAny_short (s : ByteArray) (w : World) (h8 : s.size ≤ 8) :
    Calls Tryz.prog 125 #[.string s, .string ⟨#[44, 58]⟩] w fun e w' => e = .returned (.int .i64 (Lib.indexAny s.data.toList [44, 58])) ∧ Below w.heap.size w w' := by
  have h8z : decide ((8 : Int) < (s.size : Int)) = false := decide_eq_false (by omega)
  have cA := fun w => Tryz.strings_shouldUseASCIISet (s.size : Int) w
  rw [h8z] at cA
  have hst : Below w.heap.size w (w.iter s 0) := b_iter (Below.refl _ _) (Nat.le_refl _) _ _
  have HST : Hid ((w.iter s 0).heap[w.heap.size]? = some (.stringIter s 0) ∧ Below w.heap.size w (w.iter s 0)) := ⟨World.iter_heap w s 0, hst⟩
  clear hst h8z
  go_enter Tryz.func125, Tryz.ntmps125
  go_wp2_with (go_at_call 142; refine (cA _).mono ?_; rintro e w' ⟨rfl, hw⟩; rw [hw])
  go_loopg [9, 10] s.size (fun g _ _ wx => ∃ i : Nat, i + g = s.size ∧ wx.heap[w.heap.size]? = some (.stringIter s i) ∧ Below w.heap.size w wx ∧ Lib.NoAny s.data.toList [44, 58] i)
  case atStart => exact ⟨0, by omega, HST.out.1, HST.out.2, Lib.NoAny.zero _ _⟩
  case round =>
    obtain ⟨i, hig, hk, hB, hno⟩ := hrel
    have HN : Hid (Lib.NoAny s.data.toList [44, 58] i ∧ Below w.heap.size w wr ∧ wr.heap[w.heap.size]? = some (.stringIter s i)) := ⟨hno, hB, hk⟩
    clear hno
    by_cases hi : i < s.size
    · have hnx := fun ty => Lib.run_next_any_at (P := Tryz.prog) wr w.heap.size s i ty hk hi
      have hBn : ∀ n, Below w.heap.size w (wr.iterAt w.heap.size s n) := fun n => Lib.below_iterAt hB (Nat.le_refl _) s n
      have hkn : ∀ n, (wr.iterAt w.heap.size s n).heap[w.heap.size]? = some (.stringIter s n) := fun n => Lib.iterAt_heap wr w.heap.size s i n hk
      have hszn : ∀ n, w.heap.size < (wr.iterAt w.heap.size s n).heap.size := fun n => (Array.getElem?_eq_some_iff.1 (hkn n)).1
      obtain ⟨x, hx⟩ : ∃ x : UInt8, s[i]'hi = x := ⟨_, rfl⟩
      have hxl : s.data.toList[i]? = some x := by rw [← hx]; exact Lib.data_getElem? s i hi
      by_cases ha : x.toNat < 128
      · have hd : Utf8.decode s i = (x.toNat, 1) := by rw [decode_ascii s i hi (by rw [hx]; exact ha), hx]
        rw [hd] at hnx
        obtain ⟨g, rfl⟩ : ∃ g, gk = g + 1 := ⟨gk - 1, by omega⟩
        have hcon := Lib.contains_iff_indexByte [44, 58] x
        have hback : ((x.toNat : Int)).toNat.toUInt8 = x := by simp
        have cR : ∀ w, Calls Tryz.prog 141 #[.string ⟨#[44, 58]⟩, .int .i32 (x.toNat : Int)] w fun e w' => e = .returned (.int .i64 (Lib.indexByte [44, 58] x)) ∧ w' = w := fun w => by
          have := Tryz.strings_IndexRune_ascii ⟨#[44, 58]⟩ (x.toNat : Int) w (by omega) (by omega)
          rw [hback] at this; exact this
        have HX : Hid (s.data.toList[i]? = some x) := hxl
        generalize Lib.indexByte [44, 58] x = q at cR hcon
        clear hxl hx hd hback hB hk
        cases hin : ([44, 58] : List UInt8).contains x
        · rw [hin] at hcon
          have hlt : ¬ ((0 : Int) ≤ q) := of_decide_eq_false hcon.symm
          have HI : Hid (([44, 58] : List UInt8).contains x = false) := hin
          clear hcon hin
          go_wp2_with (go_at_call 141; refine (cR _).mono ?_; rintro e w' ⟨rfl, hw⟩; rw [hw])
          go_roundg g
          case measure => omega
          case rel => exact ⟨i + 1, by omega, hkn _, hBn _, HN.out.1.succ HX.out HI.out⟩
        · rw [hin] at hcon
          have hge : (0 : Int) ≤ q := of_decide_eq_true hcon.symm
          have HI : Hid (([44, 58] : List UInt8).contains x = true) := hin
          clear hcon hin
          go_wp2_with (go_at_call 141; refine (cR _).mono ?_; rintro e w' ⟨rfl, hw⟩; rw [hw])
          go_ret
          exact ⟨by rw [Lib.indexAny_hit HN.out.1 HX.out HI.out]; rfl, hBn _⟩
      · have hhi : 128 ≤ (s[i]'hi).toNat := by rw [hx]; omega
        have hsp := dec_span s i hi hhi
        have hdh := decode_high s i hi hhi
        have hrl := Lib.rune_le s i
        have hva := dec_valid s i
        generalize hd : Utf8.decode s i = d at hnx hsp hdh hrl hva
        obtain ⟨r, n⟩ := d
        simp only at hnx hsp hdh hrl hva
        have cR : ∀ w, Calls Tryz.prog 141 #[.string ⟨#[44, 58]⟩, .int .i32 (r : Int)] w fun e w' => e = .returned (.int .i64 (-1)) ∧ Below w.heap.size w w' := fun w => by
          by_cases hr : r = 65533
          · subst hr; exact idxRune_bad w
          · exact idxRune_good r hdh.1 hrl hr hva w
        have HM : Hid (Lib.NoAny s.data.toList [44, 58] (i + n)) := noAny_more HN.out.1 hsp.2
        have hin : i + n ≤ s.size := hsp.1
        have hn1 : 1 ≤ n := hdh.2
        clear hxl hx hd hB hk hsp hdh hva hhi ha
        go_wp2_with (go_at_call 141; refine (cR _).mono ?_; rintro e W2 ⟨rfl, hB2⟩)
        go_roundg (s.size - (i + n))
        case measure => omega
        case rel => exact ⟨i + n, by omega, (hB2.block _ (hszn _)).trans (hkn _), on1 (hBn _) hB2 (Nat.le_refl _), HM.out⟩
    · obtain rfl : i = s.size := by omega
      have hnx := fun ty => Lib.run_next_end_at (P := Tryz.prog) wr w.heap.size s s.size ty hk (by omega)
      have HE : Hid (Lib.indexAny s.data.toList [44, 58] = -1) := Lib.indexAny_none (by rw [← Lib.size_eq]; exact HN.out.1)
      go_wp2
      go_ret
      exact ⟨by rw [HE.out]; rfl, hB⟩
set_option maxHeartbeats 2000000 in
theorem containsAny_any (s : ByteArray) (w : World) (hs : s.size < 4294967281) :
    Calls Tryz.prog 107 #[.string s, .string ⟨#[44, 58]⟩] w fun e w' => e = .returned (.bool (Lib.containsAny s.data.toList [44, 58])) ∧ Below w.heap.size w w' := by
  have c : Calls Tryz.prog 125 #[.string s, .string ⟨#[44, 58]⟩] w fun e w' => e = .returned (.int .i64 (Lib.indexAny s.data.toList [44, 58])) ∧ Below w.heap.size w w' := by
    by_cases h8 : s.size ≤ 8
    · exact idxAny_short s w h8
    · refine (Tryz.strings_IndexAny_long (zero_of_info (n := 256) (by kernel_rfl)).1 s ⟨#[44, 58]⟩ w (by decide) (by omega) hs (by decide) ?_).mono ?_
      · intro j b hj
        match j, hj with
        | 0, hj => obtain rfl : (44 : UInt8) = b := by simpa using hj
                   decide
        | 1, hj => obtain rfl : (58 : UInt8) = b := by simpa using hj
                   decide
        | j + 2, hj => simp at hj
      · rintro e w' ⟨rfl, rfl⟩
        exact ⟨rfl, b_alloc (b_alloc (Below.refl _ _) (Nat.le_refl _) _) (Nat.le_refl _) _⟩
  have HE : Hid (Lib.containsAny s.data.toList [44, 58] = decide (0 ≤ Lib.indexAny s.data.toList [44, 58])) := rfl
  generalize Lib.indexAny s.data.toList [44, 58] = q at c HE
  rw [HE.out]
  clear HE
  go_enter Tryz.func107, Tryz.ntmps107
  go_wp2_with (go_at_call 125; refine c.mono ?_; rintro e W1 ⟨rfl, hB1⟩)
  go_ret
  exact ⟨rfl, hB1⟩

def badW (l : Nm) : Bool := l.isEmpty || Lib.containsAny l [44, 58]
set_option maxHeartbeats 2000000 in
theorem noName_any (l : Nm) (w : World) (hl : l.length < 4294967281) :
    Calls Tryz.prog 106 #[.string (bs l)] w fun e w' => e = .returned (.bool (badW l)) ∧ Below w.heap.size w w' := by
  have c := containsAny_any (bs l) w (by rw [bs_size]; exact hl)
  rw [bs_data] at c
  by_cases h0 : l = []
  · subst h0
    go_enter Tryz.func106, Tryz.ntmps106
    go_wp2
    go_ret
    exact ⟨rfl, Below.refl _ _⟩
  · have he : (bs l).toList.isEmpty = false := by rw [bs_toList]; cases l with | nil => exact absurd rfl h0 | cons _ _ => rfl
    have hn : ¬ (bs l).toList = [] := by rw [bs_toList]; exact h0
    have HE : Hid (badW l = Lib.containsAny l [44, 58]) := by
      show _ = _
      unfold badW
      cases l with
      | nil => exact absurd rfl h0
      | cons _ _ => rfl
    rw [HE.out]
    generalize Lib.containsAny l [44, 58] = q at c
    have hl2 : l.isEmpty = false := by cases l with | nil => exact absurd rfl h0 | cons _ _ => rfl
    have hl3 : (l == []) = false := by cases l with | nil => exact absurd rfl h0 | cons _ _ => rfl
    clear HE
    go_enter Tryz.func106, Tryz.ntmps106
    go_wp2_with (go_at_call 107; refine c.mono ?_; rintro e W1 ⟨rfl, hB1⟩)
    go_ret
    exact ⟨rfl, hB1⟩
def idxW : List Nm → Nat → Int
  | [], _ => -1
  | p :: r, k => if badW p = true then k else idxW r (k + 1)
theorem idxW_any (l : List Nm) : ∀ k : Nat, decide (0 ≤ idxW l k) = l.any badW := by
  induction l with
  | nil => intro k; rfl
  | cons p r ih =>
    intro k
    cases h : badW p
    · have e : idxW (p :: r) k = idxW r (k + 1) := by
        conv => lhs; unfold idxW
        rw [if_neg (by rw [h]; decide)]
      rw [e, ih, List.any_cons, h, Bool.false_or]
    · have e : idxW (p :: r) k = k := by unfold idxW; rw [if_pos h]
      rw [e, List.any_cons, h, Bool.true_or]
      simp
set_option maxHeartbeats 4000000 in
set_option maxRecDepth 100000 in
theorem idxFW_any {v : Value} {L : List Nm} {w : World} (h : IsS w v L) (hn : L.length ≤ 100000000) (hl : ∀ x ∈ L, x.length < 4294967281) :
    Calls Tryz.prog 126 #[v, .func (.func 106) #[] #[]] w fun e w' => e = .returned (.int .i64 (idxW L 0)) ∧ Below w.heap.size w w' := by
  obtain ⟨ao, c, rfl, hv⟩ : ∃ ao c, v = .slice ao L.length c ∧ ∀ (j : Nat) g, L[j]? = some g → ∃ b o, ao = some ⟨b, o, none⟩ ∧ b < w.heap.size ∧ w.cell? ⟨b, o + j, none⟩ = some (.string (bs g)) := by
    rcases h with ⟨ao, c, rfl, rfl, _⟩ | ⟨b, off, cap, rfl, _, _, hb, hl⟩
    · exact ⟨ao, c, rfl, fun j g hg => by simp at hg⟩
    · exact ⟨_, _, rfl, fun j g hg => ⟨b, off, rfl, hb, hl j g hg⟩⟩
  have HV : Hid (∀ (j : Nat) g, L[j]? = some g → ∃ b o, ao = some ⟨b, o, none⟩ ∧ b < w.heap.size ∧ w.cell? ⟨b, o + j, none⟩ = some (.string (bs g))) := hv
  have HL : Hid (∀ x ∈ L, x.length < 4294967281) := hl
  clear h hv hl
  go_enter Tryz.func126, Tryz.ntmps126
  go_wp2
  go_loopw [8] (fun i wr => ∃ k : Nat, k ≤ L.length ∧ i = .int .i64 k ∧ idxW L 0 = idxW (L.drop k) k ∧ Below w.heap.size w wr) (fun i _ => L.length - (intOf i).toNat)
  case atStart => exact ⟨0, Nat.zero_le _, rfl, rfl, Below.refl _ _⟩
  case round =>
    obtain ⟨k, hk, rfl, hi, hB⟩ := hrel
    have HI : Hid (idxW L 0 = idxW (L.drop k) k) := hi
    clear hi
    by_cases hlt : k < L.length
    · obtain ⟨p, hp⟩ : ∃ p, L[k]? = some p := ⟨L[k], by simp [hlt]⟩
      obtain ⟨b, o, rfl, hb, c0⟩ := HV.out k p hp
      have d0 := (hB.cell (p := ⟨b, o + k, none⟩) hb).trans c0
      have HD : Hid (L.drop k = p :: L.drop (k + 1)) := dropK hp
      have cn := noName_any p wr (HL.out p (List.mem_of_getElem? hp))
      have hki : (k : Int) < (L.length : Int) := by omega
      clear c0 hp
      cases hq : badW p
      · have H : Hid (idxW L 0 = idxW (L.drop (k + 1)) (k + 1)) := by
          show _ = _
          rw [HI.out, HD.out]; conv => lhs; unfold idxW
          rw [if_neg (by rw [hq]; decide)]
        rw [hq] at cn
        clear HI HD hq
        go_wp2_with (go_at_call 106; refine cn.mono ?_; rintro e w' ⟨rfl, hB1⟩)
        go_roundw
        case rel => exact ⟨k + 1, by omega, by go_num, H.out, on1 hB hB1 (Nat.le_refl _)⟩
        case measure => simp [intOf]; omega
      · have H : Hid (idxW L 0 = k) := by
          show _ = _
          rw [HI.out, HD.out]; unfold idxW; rw [if_pos hq]
        rw [hq] at cn
        clear HI HD hq
        go_wp2_with (go_at_call 106; refine cn.mono ?_; rintro e w' ⟨rfl, hB1⟩)
        go_ret
        exact ⟨ret_v (by rw [H.out]; rfl), on1 hB hB1 (Nat.le_refl _)⟩
    · have hd : L.drop k = [] := List.drop_eq_nil_of_le (by omega)
      have H : Hid (idxW L 0 = -1) := by
        show _ = _
        rw [HI.out, hd]; rfl
      clear HI hd
      go_wp2
      go_ret
      exact ⟨ret_v (by rw [H.out]; rfl), hB⟩
def areN (L : List Nm) : Bool := !(L.any badW)
set_option maxHeartbeats 2000000 in
theorem areNames_any {v : Value} {L : List Nm} {w : World} (h : IsS w v L) (hn : L.length ≤ 100000000) (hl : ∀ x ∈ L, x.length < 4294967281) :
    Calls Tryz.prog 86 #[v] w fun e w' => e = .returned (.bool (areN L)) ∧ Below w.heap.size w w' := by
  have c := idxFW_any h hn hl
  have HE : Hid (decide (0 ≤ idxW L 0) = L.any badW) := idxW_any L 0
  generalize idxW L 0 = q at c HE
  have c2 : Calls Tryz.prog 108 #[v, .func (.func 106) #[] #[]] w fun e w' => e = .returned (.bool (decide (0 ≤ q))) ∧ Below w.heap.size w w' := by
    clear HE
    go_enter Tryz.func108, Tryz.ntmps108
    go_wp2_with (go_at_call 126; refine c.mono ?_; rintro e W1 ⟨rfl, hB1⟩)
    go_ret
    exact ⟨rfl, hB1⟩
  have HA : Hid (areN L = !(L.any badW)) := rfl
  rw [HE.out] at c2
  generalize L.any badW = B at c2 HA
  clear c HE h hn hl
  go_enter Tryz.func86, Tryz.ntmps86
  go_wp2_with (go_at_call 108; refine c2.mono ?_; rintro e W1 ⟨rfl, hB1⟩)
  go_ret
  exact ⟨ret_v (by rw [HA.out]; rfl), hB1⟩
end Go.Proofs.YtgjlonilbhlneaaGreatDoor

/-
  The walks of schema.parseNumber and schema.typeOf.
-/
namespace Go.Proofs.YtgjlonilbhlneaaGreatDoor
open Go.RowKit
set_option linter.unusedVariables false
set_option linter.unusedSimpArgs false

structure EV (w : World) : Prop where
  tw : TW w
  t0 : w.cell? ⟨1, 0, none⟩ = some (.string ⟨#[]⟩)
  mx : ∃ m, w.cell? ⟨2, 0, none⟩ = some (.int .i64 m)
  es : ∃ te pe, w.cell? ⟨6, 0, none⟩ = some (.iface te pe)
  er : ∃ te pe, w.cell? ⟨7, 0, none⟩ = some (.iface te pe)
theorem EV.on {w w' : World} (h : EV w) (hB : Below w.heap.size w w') : EV w' := by
  obtain ⟨h1, h2, ⟨m, h3⟩, ⟨a, b, h4⟩, ⟨c, d, h5⟩⟩ := h
  have l : ∀ {p v}, w.cell? p = some v → w'.cell? p = some v := fun {p v} hc => (hB.cell (World.block_lt_of_cell? w _ hc)).trans hc
  exact ⟨h1.on hB, l h2, ⟨m, l h3⟩, ⟨a, b, l h4⟩, ⟨c, d, l h5⟩⟩

def numP (l : Nm) : Int × Bool := match Lib.atoiAll l with
  | .ok v => if (0 ≤ v ∧ v ≤ 99) ∧ Lib.itoa v = l then (v, true) else (0, false)
  | _ => (0, false)
theorem numP_ok {l : Nm} {v : Int} (h : Lib.atoiAll l = .ok v) : numP l = if (0 ≤ v ∧ v ≤ 99) ∧ Lib.itoa v = l then (v, true) else (0, false) := by unfold numP; rw [h]
theorem numP_syn {l : Nm} (h : Lib.atoiAll l = .«syntax») : numP l = (0, false) := by unfold numP; rw [h]
theorem numP_rng {l : Nm} (h : Lib.atoiAll l = .range) : numP l = (0, false) := by unfold numP; rw [h]
theorem itoa_nat' (i : Nat) : Lib.itoa (i : Int) = Lib.decDigits i := by
  unfold Lib.itoa; rw [if_neg (by omega)]; simp

set_option maxHeartbeats 4000000 in
set_option maxRecDepth 100000 in
theorem parseNumber_any (l : Nm) (w : World) (hl : l.length ≤ 281474976710656) (hE : EV w) :
    Calls Tryz.prog 87 #[.string (bs l), .int .i64 99] w fun e w' => e = .returned (.tuple #[.int .i64 (numP l).1, .bool (numP l).2]) ∧ Below w.heap.size w w' := by
  have hsz : (bs l).size ≤ 281474976710656 := by rw [bs_size]; exact hl
  cases hA : Lib.atoiAll l with
  | ok v =>
    have c : Calls Tryz.prog 109 #[.string (bs l)] w fun e w' => e = .returned (.tuple #[.int .i64 v, .nilIface]) ∧ Below w.heap.size w w' := by
      refine (Tryz.strconv_Atoi_ok (bs l) (by omega) v (by rw [bs_data]; exact hA) w).mono ?_
      rintro e w' ⟨rfl, rfl | ⟨t, rfl⟩⟩
      · exact ⟨rfl, Below.refl _ _⟩
      · exact ⟨rfl, Lib.bytesWorld_below w 5 t⟩
    rw [numP_ok hA]
    by_cases hr : 0 ≤ v ∧ v ≤ 99
    · obtain ⟨n, rfl⟩ : ∃ n : Nat, v = (n : Int) := ⟨v.toNat, by omega⟩
      have ci : ∀ w, Calls Tryz.prog 52 #[.int .i64 (n : Int)] w fun e w' => e = .returned (.string (bs (Lib.itoa (n : Int)))) ∧ w' = w := fun w => by
        rw [itoa_nat']; exact Tryz.strconv_Itoa_small n (by omega) w
      have HQ : Hid ((if (0 ≤ (n : Int) ∧ (n : Int) ≤ 99) ∧ Lib.itoa (n : Int) = l then ((n : Int), true) else (0, false)) = if (Lib.itoa (n : Int) == l) = true then ((n : Int), true) else (0, false)) := by
        show _ = _
        by_cases e : Lib.itoa (n : Int) = l
        · rw [if_pos ⟨hr, e⟩, if_pos (by simpa using e)]
        · rw [if_neg (fun h => e h.2), if_neg (by simpa using e)]
      rw [HQ.out]
      obtain ⟨h1, h2⟩ := hr
      generalize Lib.itoa (n : Int) = d at ci ⊢
      clear hA hE hl hsz HQ
      cases hq : d == l
      all_goals
        go_enter Tryz.func87, Tryz.ntmps87
        go_wp2_with (first | (go_at_call 109; refine c.mono ?_; rintro e W1 ⟨rfl, hB1⟩) | (go_at_call 52; refine (ci _).mono ?_; rintro e w' ⟨rfl, rfl⟩))
        go_ret2
        exact ⟨rfl, hB1⟩
    · rw [if_neg (fun h => hr h.1)]
      have hv : v < 0 ∨ (0 ≤ v ∧ 99 < v) := by omega
      clear hA hE hl hsz hr
      rcases hv with hv | ⟨hv, hv2⟩
      all_goals
        go_enter Tryz.func87, Tryz.ntmps87
        go_wp2_with (go_at_call 109; refine c.mono ?_; rintro e W1 ⟨rfl, hB1⟩)
        go_ret2
        exact ⟨rfl, hB1⟩
  | «syntax» =>
    obtain ⟨te, pe, hes⟩ := hE.es
    have c := Tryz.strconv_Atoi_syntax (bs l) hsz (by rw [bs_data]; exact hA) (.iface te pe) w hes (.inr ⟨te, pe, rfl⟩)
    rw [numP_syn hA]
    clear hA hE hl hsz hes
    go_enter Tryz.func87, Tryz.ntmps87
    go_wp2_with (go_at_call 109; refine c.mono ?_; rintro e W1 ⟨N, rfl, _, _, hB1⟩)
    go_ret2
    exact ⟨rfl, hB1⟩
  | range =>
    obtain ⟨te, pe, her⟩ := hE.er
    have c := Tryz.strconv_Atoi_range (bs l) hsz (by rw [bs_data]; exact hA) (.iface te pe) w her (.inr ⟨te, pe, rfl⟩)
    rw [bs_data] at c
    rw [numP_rng hA]
    generalize Lib.atoiSat l = q at c ⊢
    clear hA hE hl hsz her
    go_enter Tryz.func87, Tryz.ntmps87
    go_wp2_with (go_at_call 109; refine c.mono ?_; rintro e W1 ⟨N, rfl, _, _, hB1⟩)
    go_ret2
    exact ⟨rfl, hB1⟩

def tyO (l : Nm) : Int := if l = [105, 110, 116] then 1 else if l = [98, 111, 111, 108] then 2 else if l = [116, 101, 120, 116] then 3 else 0
abbrev tws : Value := .agg #[.string ⟨#[]⟩, .string ⟨#[105, 110, 116]⟩, .string ⟨#[98, 111, 111, 108]⟩, .string ⟨#[116, 101, 120, 116]⟩]
theorem tyIdx (w : World) (k : Nat) (hk : k < 4) : (Instr.index 144 tws (.int .i64 (k : Int))).run Tryz.prog w = .ok (#[Value.string ⟨#[]⟩, .string ⟨#[105, 110, 116]⟩, .string ⟨#[98, 111, 111, 108]⟩, .string ⟨#[116, 101, 120, 116]⟩][k]'(by simpa using hk)) w := by
  match k, hk with
  | 0, _ => simp [Instr.index, run_underlying Tryz.underlying144, go_sem]
  | 1, _ => simp [Instr.index, run_underlying Tryz.underlying144, go_sem]
  | 2, _ => simp [Instr.index, run_underlying Tryz.underlying144, go_sem]
  | 3, _ => simp [Instr.index, run_underlying Tryz.underlying144, go_sem]
def TR (l : Nm) (k : Nat) : Prop := (0 < k → ¬ l = []) ∧ (1 < k → ¬ l = [105, 110, 116]) ∧ (2 < k → ¬ l = [98, 111, 111, 108]) ∧ (3 < k → ¬ l = [116, 101, 120, 116])
theorem ne_b {a b : Nm} (h : ¬ a = b) : (a == b) = false := by simpa using h
set_option maxHeartbeats 4000000 in
set_option maxRecDepth 100000 in
theorem typeOf_any (l : Nm) (w : World) (hE : EV w) : Calls Tryz.prog 111 #[.string (bs l)] w fun e w' => e = .returned (.int .i64 (tyO l)) ∧ w' = w := by
  obtain ⟨h1, h2, h3⟩ := hE.tw
  have h0 := hE.t0
  have x0 := tyIdx w 0 (by omega)
  have x1 := tyIdx w 1 (by omega)
  have x2 := tyIdx w 2 (by omega)
  have x3 := tyIdx w 3 (by omega)
  simp at x0 x1 x2 x3
  clear hE
  go_enter Tryz.func111, Tryz.ntmps111
  go_wp2
  go_loop [6] (fun i => ∃ k : Nat, k ≤ 4 ∧ i = .int .i64 k ∧ TR l k) (fun i => 4 - (intOf i).toNat)
  case atStart => exact ⟨0, by omega, rfl, by unfold TR; simp⟩
  case round =>
    obtain ⟨k, hk, rfl, hT⟩ := hrel
    have HT : Hid (TR l k) := hT
    clear hT
    match k, hk with
    | 0, _ =>
      by_cases hq : l = []
      · subst hq
        clear HT
        go_wp2
        go_ret
        exact ⟨rfl, rfl⟩
      · have q1 := ne_b hq
        have q2 := ne_b (fun e => hq e.symm)
        have q3 : ¬ [] = l := fun e => hq e.symm
        have HQ : Hid (¬ l = []) := hq
        go_wp2
        go_round
        case rel => exact ⟨1, by omega, rfl, by have := HT.out; unfold TR at *; refine ⟨?_, ?_, ?_, ?_⟩ <;> intro hh <;> first | exact HQ.out | exact this.1 (by omega) | exact this.2.1 (by omega) | exact this.2.2.1 (by omega) | exact absurd hh (by omega)⟩
        case measure => simp [intOf]
    | 1, _ =>
      by_cases hq : l = [105, 110, 116]
      · subst hq
        clear HT
        go_wp2
        go_ret
        exact ⟨rfl, rfl⟩
      · have q1 := ne_b hq
        have q2 := ne_b (fun e => hq e.symm)
        have q3 : ¬ [105, 110, 116] = l := fun e => hq e.symm
        have HQ : Hid (¬ l = [105, 110, 116]) := hq
        go_wp2
        go_round
        case rel => exact ⟨2, by omega, rfl, by have := HT.out; unfold TR at *; refine ⟨?_, ?_, ?_, ?_⟩ <;> intro hh <;> first | exact HQ.out | exact this.1 (by omega) | exact this.2.1 (by omega) | exact this.2.2.1 (by omega) | exact absurd hh (by omega)⟩
        case measure => simp [intOf]
    | 2, _ =>
      by_cases hq : l = [98, 111, 111, 108]
      · subst hq
        clear HT
        go_wp2
        go_ret
        exact ⟨rfl, rfl⟩
      · have q1 := ne_b hq
        have q2 := ne_b (fun e => hq e.symm)
        have q3 : ¬ [98, 111, 111, 108] = l := fun e => hq e.symm
        have HQ : Hid (¬ l = [98, 111, 111, 108]) := hq
        go_wp2
        go_round
        case rel => exact ⟨3, by omega, rfl, by have := HT.out; unfold TR at *; refine ⟨?_, ?_, ?_, ?_⟩ <;> intro hh <;> first | exact HQ.out | exact this.1 (by omega) | exact this.2.1 (by omega) | exact this.2.2.1 (by omega) | exact absurd hh (by omega)⟩
        case measure => simp [intOf]
    | 3, _ =>
      by_cases hq : l = [116, 101, 120, 116]
      · subst hq
        clear HT
        go_wp2
        go_ret
        exact ⟨rfl, rfl⟩
      · have q1 := ne_b hq
        have q2 := ne_b (fun e => hq e.symm)
        have q3 : ¬ [116, 101, 120, 116] = l := fun e => hq e.symm
        have HQ : Hid (¬ l = [116, 101, 120, 116]) := hq
        go_wp2
        go_round
        case rel => exact ⟨4, by omega, rfl, by have := HT.out; unfold TR at *; refine ⟨?_, ?_, ?_, ?_⟩ <;> intro hh <;> first | exact HQ.out | exact this.1 (by omega) | exact this.2.1 (by omega) | exact this.2.2.1 (by omega) | exact absurd hh (by omega)⟩
        case measure => simp [intOf]
    | 4, _ =>
      have HZ : Hid (tyO l = 0) := by
        obtain ⟨_, a, b, c⟩ := HT.out
        show _ = _
        unfold tyO; rw [if_neg (a (by omega)), if_neg (b (by omega)), if_neg (c (by omega))]
      go_wp2
      go_ret
      exact ⟨ret_v (by rw [HZ.out]; rfl), rfl⟩
end Go.Proofs.YtgjlonilbhlneaaGreatDoor

/-
  The walk of schema.parseField.
-/
namespace Go.Proofs.YtgjlonilbhlneaaGreatDoor
open Go.RowKit
set_option linter.unusedVariables false
set_option linter.unusedSimpArgs false

def restF (l : Nm) : Nm := (Lib.cut l [58]).2.1
def keyF (l : Nm) : Bool := Lib.hasSuffix (restF l) [42]
def mustF (l : Nm) : Bool := if keyF l = true then true else Lib.hasSuffix (Lib.trimSuffix (restF l) [42]) [33]
def typF (l : Nm) : Nm := if keyF l = true then Lib.trimSuffix (restF l) [42] else Lib.trimSuffix (Lib.trimSuffix (restF l) [42]) [33]
def fdOf (l : Nm) : Fd := ⟨(Lib.cut l [58]).1, tyO (typF l), mustF l, keyF l⟩
def fdOk (l : Nm) : Bool := areN [(Lib.cut l [58]).1] && !(tyO (typF l) == 0)
theorem cut_len (l sep : Nm) : (Lib.cut l sep).1.length ≤ l.length ∧ (Lib.cut l sep).2.1.length ≤ l.length := by
  unfold Lib.cut
  split
  · exact ⟨by simp only [List.length_take]; omega, by simp only [List.length_drop]; omega⟩
  · exact ⟨Nat.le_refl _, by simp⟩
theorem trim_len (l sep : Nm) : (Lib.trimSuffix l sep).length ≤ l.length := by
  unfold Lib.trimSuffix
  split
  · simp only [List.length_take]; omega
  · exact Nat.le_refl _
theorem one_isS (w : World) (a : Nm) : IsS (w.alloc (.cells #[.string (bs a)] 9)) (.slice (some ⟨w.heap.size, 0, none⟩) 1 1) [a] := by
  refine .inr ⟨w.heap.size, 0, 1, rfl, by simp, by unfold maxLen; omega, by simp, ?_⟩
  intro k n hn
  match k, hn with
  | 0, hn => obtain rfl := Option.some.inj hn; simp
  | k + 1, hn => simp at hn

theorem cell_heap {W W' : World} (h : W.heap = W'.heap) (p : Addr) : W.cell? p = W'.cell? p := by simp [World.cell?, h]
theorem frozen_heap {W W' : World} (h : W.heap = W'.heap) (p : Addr) : W.frozen? p = W'.frozen? p := by simp [World.frozen?, h]
theorem isS_dr {w : World} {v : Value} {l : List Nm} (h : IsS w v l) (n : Nat) : IsS (w.drewN n) v l := h.on (b_drewN (Below.refl _ _) n)
abbrev resF (w : World) : World := w.alloc (.cells #[.string ⟨#[]⟩, .int .i64 0, .bool false, .bool false] 52)
def FldAt (h : Nat) (nm : Nm) (t : Int) (mu ke : Bool) (W : World) : Prop :=
  (W.cell? ⟨h + 1, 0, none⟩ = some (.string (bs nm)) ∧ W.cell? ⟨h + 1, 1, none⟩ = some (.int .i64 t) ∧ W.cell? ⟨h + 1, 2, none⟩ = some (.bool mu) ∧ W.cell? ⟨h + 1, 3, none⟩ = some (.bool ke)) ∧
  (W.cell? ⟨h, 0, none⟩ = some (.string ⟨#[]⟩) ∧ W.cell? ⟨h, 1, none⟩ = some (.int .i64 0) ∧ W.cell? ⟨h, 2, none⟩ = some (.bool false) ∧ W.cell? ⟨h, 3, none⟩ = some (.bool false)) ∧ (∀ k, W.frozen? ⟨h, k, none⟩ = false)
theorem FldAt.on {h : Nat} {nm : Nm} {t : Int} {mu ke : Bool} {W W' : World} {o : Obj} (H : FldAt h nm t mu ke W) (hl : h + 1 < W.heap.size) (hB : Below (W.alloc o).heap.size ((W.alloc o).drewN 1) W') : FldAt h nm t mu ke W' := by
  have hc : ∀ b k, b < W.heap.size → W'.cell? ⟨b, k, none⟩ = W.cell? ⟨b, k, none⟩ := fun b k hb => by
    rw [hB.cell (p := ⟨b, k, none⟩) (by simp; omega)]
    exact World.cell?_alloc_lt _ _ ⟨b, k, none⟩ hb
  have hf : ∀ b k, b < W.heap.size → W'.frozen? ⟨b, k, none⟩ = W.frozen? ⟨b, k, none⟩ := fun b k hb => by
    rw [hB.frozen (p := ⟨b, k, none⟩) (by simp; omega)]
    exact World.frozen?_alloc_old _ _ ⟨b, k, none⟩ (Nat.ne_of_lt hb)
  have l1 : h < W.heap.size := by omega
  unfold FldAt at H ⊢
  simp only [hc _ _ hl, hc _ _ l1, hf _ _ l1]
  exact H
theorem b_res {w W : World} (h : Below w.heap.size w W) (a b c d : Value) : Below w.heap.size w ((((W.setCell ⟨w.heap.size, 0, none⟩ a).setCell ⟨w.heap.size, 1, none⟩ b).setCell ⟨w.heap.size, 2, none⟩ c).setCell ⟨w.heap.size, 3, none⟩ d) :=
  (((h.setCell (Nat.le_refl _) _).setCell (Nat.le_refl _) _).setCell (Nat.le_refl _) _).setCell (Nat.le_refl _) _
set_option maxHeartbeats 8000000 in
set_option maxRecDepth 100000 in
theorem parseField_k (l nm r1 r2 : Nm) (fd : Bool) (t : Int) (okN : Bool) (w : World)
    (cC : Calls Tryz.prog 110 #[.string (bs l), .string ⟨#[58]⟩] (resF w) fun e w' => e = .returned (.tuple #[.string (bs nm), .string (bs r1), .bool fd]) ∧ ∃ n, w' = (resF w).drewN n)
    (cS : ∀ W, Calls Tryz.prog 55 #[.string (bs r1), .string ⟨#[42]⟩] W fun e w' => e = .returned (.tuple #[.string (bs r2), .bool true]) ∧ w' = W)
    (cT : ∀ n, Calls Tryz.prog 111 #[.string (bs r2)] ((resF w).drewN n) fun e w' => e = .returned (.int .i64 t) ∧ w' = (resF w).drewN n)
    (cA : ∀ W v, IsS W v [nm] → Calls Tryz.prog 86 #[v] W fun e w' => e = .returned (.bool okN) ∧ Below W.heap.size W w') :
    Calls Tryz.prog 88 #[.string (bs l)] w fun e w' => e = .returned (.tuple #[.agg #[.string (bs nm), .int .i64 t, .bool true, .bool true], .bool (okN && !(t == 0))]) ∧ Below w.heap.size w w' := by
  go_enter Tryz.func88, Tryz.ntmps88
  go_wp2_with (first | (go_at_call 110; refine cC.mono ?_; rintro e W1 ⟨rfl, nd, rfl⟩) | (go_at_call 55; refine (cS _).mono ?_; rintro e w' ⟨rfl, rfl⟩) | (go_at_call 111; refine (cT _).mono ?_; rintro e w' ⟨rfl, rfl⟩))
  obtain ⟨W1, hW1⟩ : ∃ W1, W1 = ((resF w).drewN nd).alloc (.cells #[.string (bs nm), .int .i64 t, .bool true, .bool true] 52) := ⟨_, rfl⟩
  have hB1 : Below w.heap.size w W1 := by rw [hW1]; exact b_alloc (b_drewN (b_alloc (Below.refl _ _) (Nat.le_refl _) _) _) (Nat.le_refl _) _
  have hh : W1.heap = ((resF w).alloc (.cells #[.string (bs nm), .int .i64 t, .bool true, .bool true] 52)).heap := by rw [hW1]; rfl
  have HF : FldAt w.heap.size nm t true true W1 := by
    unfold FldAt
    simp only [cell_heap hh, frozen_heap hh]
    refine ⟨⟨?_, ?_, ?_, ?_⟩, ⟨?_, ?_, ?_, ?_⟩, fun k => ?_⟩ <;> simp
  have hs1 : W1.heap.size = w.heap.size + 1 + 1 := by rw [hh]; simp
  rw [← hW1]
  have hl1 : w.heap.size < W1.heap.size := by omega
  have hl2 : w.heap.size + 1 < W1.heap.size := by omega
  have HB1 : Hid (Below w.heap.size w W1) := hB1
  have HG : Hid (FldAt w.heap.size nm t true true W1) := HF
  obtain ⟨⟨f0, f1, f2, f3⟩, ⟨s0, s1, s2, s3⟩, z0⟩ := HF
  have HE : Hid (∀ b : Bool, (b = (okN && !(t == 0))) = (b = (okN && !(t == 0)))) := fun _ => rfl
  clear hW1 cC cS cT hs1 hB1 hh HE
  cases okN
  · first | (go_region_with (go_at_call 86; refine (cA _ _ (isS_dr (one_isS W1 nm) 1)).mono ?_; rintro e W2 ⟨rfl, hB2⟩; obtain ⟨⟨k0, k1, k2, k3⟩, ⟨q0, q1, q2, q3⟩, zz⟩ := HG.out.on hl2 hB2)) | fail
    all_goals
      go_wp2
      (try simp only [Exit.inBlock, Exit.then])
      refine bodyPost_ret (v := .tuple #[.agg #[.string (bs nm), .int .i64 t, .bool true, .bool true], .bool (false)]) ?_ rfl ⟨rfl, b_res (on1 (b_drewN (b_alloc HB1.out (Nat.le_refl _) _) 1) hB2 (Nat.le_refl _)) _ _ _ _⟩
      rw [results_cell_tmp rfl]
      go_simp
  · first | (go_region_with (go_at_call 86; refine (cA _ _ (isS_dr (one_isS W1 nm) 1)).mono ?_; rintro e W2 ⟨rfl, hB2⟩; obtain ⟨⟨k0, k1, k2, k3⟩, ⟨q0, q1, q2, q3⟩, zz⟩ := HG.out.on hl2 hB2)) | fail
    all_goals
      go_wp2
      (try simp only [Exit.inBlock, Exit.then])
      refine bodyPost_ret (v := .tuple #[.agg #[.string (bs nm), .int .i64 t, .bool true, .bool true], .bool (t != 0)]) ?_ rfl ⟨rfl, b_res (on1 (b_drewN (b_alloc HB1.out (Nat.le_refl _) _) 1) hB2 (Nat.le_refl _)) _ _ _ _⟩
      rw [results_cell_tmp rfl]
      go_simp
set_option maxHeartbeats 8000000 in
set_option maxRecDepth 100000 in
theorem parseField_m (l nm r1 r2 r3 : Nm) (fd mu : Bool) (t : Int) (okN : Bool) (w : World)
    (cC : Calls Tryz.prog 110 #[.string (bs l), .string ⟨#[58]⟩] (resF w) fun e w' => e = .returned (.tuple #[.string (bs nm), .string (bs r1), .bool fd]) ∧ ∃ n, w' = (resF w).drewN n)
    (cS : ∀ W, Calls Tryz.prog 55 #[.string (bs r1), .string ⟨#[42]⟩] W fun e w' => e = .returned (.tuple #[.string (bs r2), .bool false]) ∧ w' = W)
    (cM : ∀ W, Calls Tryz.prog 55 #[.string (bs r2), .string ⟨#[33]⟩] W fun e w' => e = .returned (.tuple #[.string (bs r3), .bool mu]) ∧ w' = W)
    (cT : ∀ n, Calls Tryz.prog 111 #[.string (bs r3)] ((resF w).drewN n) fun e w' => e = .returned (.int .i64 t) ∧ w' = (resF w).drewN n)
    (cA : ∀ W v, IsS W v [nm] → Calls Tryz.prog 86 #[v] W fun e w' => e = .returned (.bool okN) ∧ Below W.heap.size W w') :
    Calls Tryz.prog 88 #[.string (bs l)] w fun e w' => e = .returned (.tuple #[.agg #[.string (bs nm), .int .i64 t, .bool mu, .bool false], .bool (okN && !(t == 0))]) ∧ Below w.heap.size w w' := by
  go_enter Tryz.func88, Tryz.ntmps88
  go_wp2_with (first | (go_at_call 110; refine cC.mono ?_; rintro e W1 ⟨rfl, nd, rfl⟩) | (go_at_call_of 55 (bs r1); refine (cS _).mono ?_; rintro e w' ⟨rfl, rfl⟩) | (go_at_call_of 55 (bs r2); refine (cM _).mono ?_; rintro e w' ⟨rfl, rfl⟩) | (go_at_call 111; refine (cT _).mono ?_; rintro e w' ⟨rfl, rfl⟩))
  obtain ⟨W1, hW1⟩ : ∃ W1, W1 = ((resF w).drewN nd).alloc (.cells #[.string (bs nm), .int .i64 t, .bool mu, .bool false] 52) := ⟨_, rfl⟩
  have hB1 : Below w.heap.size w W1 := by rw [hW1]; exact b_alloc (b_drewN (b_alloc (Below.refl _ _) (Nat.le_refl _) _) _) (Nat.le_refl _) _
  have hh : W1.heap = ((resF w).alloc (.cells #[.string (bs nm), .int .i64 t, .bool mu, .bool false] 52)).heap := by rw [hW1]; rfl
  have HF : FldAt w.heap.size nm t mu false W1 := by
    unfold FldAt
    simp only [cell_heap hh, frozen_heap hh]
    refine ⟨⟨?_, ?_, ?_, ?_⟩, ⟨?_, ?_, ?_, ?_⟩, fun k => ?_⟩ <;> simp
  have hs1 : W1.heap.size = w.heap.size + 1 + 1 := by rw [hh]; simp
  rw [← hW1]
  have hl1 : w.heap.size < W1.heap.size := by omega
  have hl2 : w.heap.size + 1 < W1.heap.size := by omega
  have HB1 : Hid (Below w.heap.size w W1) := hB1
  have HG : Hid (FldAt w.heap.size nm t mu false W1) := HF
  obtain ⟨⟨f0, f1, f2, f3⟩, ⟨s0, s1, s2, s3⟩, z0⟩ := HF
  have HE : Hid (∀ b : Bool, (b = (okN && !(t == 0))) = (b = (okN && !(t == 0)))) := fun _ => rfl
  clear hW1 cC cS cT cM hs1 hB1 hh HE
  cases okN
  · first | (go_region_with (go_at_call 86; refine (cA _ _ (isS_dr (one_isS W1 nm) 1)).mono ?_; rintro e W2 ⟨rfl, hB2⟩; obtain ⟨⟨k0, k1, k2, k3⟩, ⟨q0, q1, q2, q3⟩, zz⟩ := HG.out.on hl2 hB2)) | fail
    all_goals
      go_wp2
      (try simp only [Exit.inBlock, Exit.then])
      refine bodyPost_ret (v := .tuple #[.agg #[.string (bs nm), .int .i64 t, .bool mu, .bool false], .bool (false)]) ?_ rfl ⟨rfl, b_res (on1 (b_drewN (b_alloc HB1.out (Nat.le_refl _) _) 1) hB2 (Nat.le_refl _)) _ _ _ _⟩
      rw [results_cell_tmp rfl]
      go_simp
  · first | (go_region_with (go_at_call 86; refine (cA _ _ (isS_dr (one_isS W1 nm) 1)).mono ?_; rintro e W2 ⟨rfl, hB2⟩; obtain ⟨⟨k0, k1, k2, k3⟩, ⟨q0, q1, q2, q3⟩, zz⟩ := HG.out.on hl2 hB2)) | fail
    all_goals
      go_wp2
      (try simp only [Exit.inBlock, Exit.then])
      refine bodyPost_ret (v := .tuple #[.agg #[.string (bs nm), .int .i64 t, .bool mu, .bool false], .bool (t != 0)]) ?_ rfl ⟨rfl, b_res (on1 (b_drewN (b_alloc HB1.out (Nat.le_refl _) _) 1) hB2 (Nat.le_refl _)) _ _ _ _⟩
      rw [results_cell_tmp rfl]
      go_simp
end Go.Proofs.YtgjlonilbhlneaaGreatDoor
