/-
  The walk of kind.Check.
-/
import Derived.Test.YtgjlonilbhlneaaGreatDoorM06
import Derived.Lib.ItoaLen
import Derived.Lib.Join
namespace Go.Proofs.YtgjlonilbhlneaaGreatDoor
open Go.RowKit
set_option linter.unusedVariables false
set_option linter.unusedSimpArgs false

set_option maxHeartbeats 8000000 in
set_option maxRecDepth 100000 in
theorem check_some (b off cap : Nat) (L : List Kd) (w : World) (hb : b < w.heap.size) (hL : LiesK w b off L) (hP : Parts w L) (hz : SzK L) (hn : L.length ≤ 12) (hc : L.length ≤ cap) (hcm : cap ≤ maxLen) :
    Calls Tryz.prog 21 #[.slice (some ⟨b, off, none⟩) L.length cap] w fun e w' => e = .returned (.tuple #[.string (bs (ksErr L).1), errV (ksErr L).2]) ∧ Below w.heap.size w w' := by
  have HH : Hid (LiesK w b off L ∧ Parts w L ∧ SzK L ∧ cap ≤ maxLen ∧ ksErr L = ksGo [] L) := ⟨hL, hP, hz, hcm, by unfold ksErr; rw [if_neg (by omega)]⟩
  unfold maxLen at hcm
  clear hL hP hz
  go_enter Tryz.func21, Tryz.ntmps21
  go_wp2
  go_loopw [13] (fun i wr => ∃ k : Nat, k ≤ L.length ∧ i = .int .i64 k ∧ (ksErr L = ksGo (L.take k) (L.drop k) ∧ Good (L.take k)) ∧ Below w.heap.size w wr) (fun i _ => L.length - (intOf i).toNat)
  case atStart => exact ⟨0, Nat.zero_le _, rfl, ⟨by rw [HH.out.2.2.2.2]; rfl, fun i k hk => by simp at hk⟩, Below.refl _ _⟩
  case round =>
    obtain ⟨k, hk, rfl, hg, hB⟩ := hrel
    have HG : Hid (ksErr L = ksGo (L.take k) (L.drop k) ∧ Good (L.take k)) := hg
    clear hg
    by_cases hlt : k < L.length
    · obtain ⟨p, hp⟩ : ∃ p, L[k]? = some p := ⟨L[k], by simp [hlt]⟩
      obtain ⟨hL, hP, hz, hcm', _⟩ := HH.out
      obtain ⟨c0, c1, c2⟩ := hL k p hp
      have hpm : p ∈ L := List.mem_of_getElem? hp
      obtain ⟨ao, co, evo, _⟩ := (hP p hpm).1.sln
      obtain ⟨af, cf, evf, _⟩ := (hP p hpm).2.sln
      rw [evo] at c1
      rw [evf] at c2
      have d0 := (hB.cell (p := ⟨b, off + k * 3, none⟩) hb).trans c0
      have d1 := (hB.cell (p := ⟨b, off + k * 3 + 1, none⟩) hb).trans c1
      have d2 := (hB.cell (p := ⟨b, off + k * 3 + 2, none⟩) hb).trans c2
      have hB0 : Below w.heap.size w (wr.alloc (.cells #[.string (bs p.nm), .slice ao p.of.length co, .slice af p.fs.length cf] 55)) := b_alloc hB (Nat.le_refl _) _
      have hlen : (L.take k).length = k := List.length_take_of_le hk
      have hsub : ∀ x ∈ L.take k ++ [p], x ∈ L := fun x hx => by
        rw [← takeK hp] at hx; exact List.mem_of_mem_take hx
      have cc := checkKind_some b off cap (L.take k) p _ (Nat.lt_of_lt_of_le hb hB0.size) (by rw [← takeK hp]; exact (hL.on hb hB0).take _) ((hP.on hB0).sub hsub) HG.out.2.small (fun x hx => hz x (hsub x hx)) (by omega) (by omega) hcm'
      rw [hlen] at cc
      have HD : Hid (L.drop k = p :: L.drop (k + 1) ∧ L.take (k + 1) = L.take k ++ [p] ∧ L[k]? = some p ∧ (L.take k).length = k) := ⟨dropK hp, takeK hp, hp, hlen⟩
      have HB0 : Hid (Below w.heap.size w (wr.alloc (.cells #[.string (bs p.nm), .slice ao p.of.length co, .slice af p.fs.length cf] 55))) := hB0
      have hbr : b < wr.heap.size := Nat.lt_of_lt_of_le hb hB.size
      have hk1 : (k : Int) + 1 ≤ (cap : Int) := by omega
      clear hL hP hz hcm' c0 c1 c2 hpm evo evf hp hlen hsub hB0
      by_cases he : kErr (L.take k) p = 0
      · rw [he, errV_0] at cc
        have HS : Hid (ksErr L = ksGo (L.take (k + 1)) (L.drop (k + 1)) ∧ Good (L.take (k + 1))) := by
          obtain ⟨h1, h2⟩ := HG.out
          obtain ⟨e1, e2, e3, e4⟩ := HD.out
          refine ⟨?_, ?_⟩
          · rw [h1, e1, e2]
            conv => lhs; unfold ksGo
            rw [if_pos he]
          · intro i x hx
            rw [List.getElem?_take] at hx
            split at hx
            · rename_i hi
              rw [List.take_take, Nat.min_eq_left (by omega)]
              by_cases hik : i = k
              · subst hik
                rw [e3] at hx
                obtain rfl := Option.some.inj hx
                exact he
              · have := h2 i x (by rw [List.getElem?_take, if_pos (by omega)]; exact hx)
                rwa [List.take_take, Nat.min_eq_left (by omega)] at this
            · cases hx
        clear HG he
        go_wp2_with (go_at_call 44; refine cc.mono ?_; rintro e w' ⟨rfl, hB1⟩)
        go_roundw
        case rel => exact ⟨k + 1, by omega, by go_num, HS.out, on1 HB0.out hB1 (Nat.le_refl _)⟩
        case measure => simp [intOf]; omega
      · rw [errV_ne he] at cc
        have HS : Hid (ksErr L = (p.nm, kErr (L.take k) p) ∧ ¬ kErr (L.take k) p = 0) := by
          refine ⟨?_, he⟩
          rw [HG.out.1, HD.out.1]
          conv => lhs; unfold ksGo
          rw [if_neg he]
        clear HG he
        go_wp2_with (go_at_call 44; refine cc.mono ?_; rintro e W1 ⟨rfl, hB1⟩; refine Hid.out ?_)
        refine Lib.hid ?_
        have g0 := hB1.cell (p := ⟨wr.heap.size, 0, none⟩) (by simp)
        simp at g0
        clear cc
        go_wp2
        go_ret2
        exact ⟨ret_v (by rw [HS.out.1, errV_ne HS.out.2]; rfl), on1 HB0.out hB1 (Nat.le_refl _)⟩
    · have hd : L.drop k = [] := List.drop_eq_nil_of_le (by omega)
      have H : Hid (ksErr L = ([], 0)) := by
        show _ = _
        rw [HG.out.1, hd]; rfl
      clear HG hd
      go_wp2
      go_ret2
      exact ⟨ret_v (by rw [H.out]; rfl), hB⟩
set_option maxHeartbeats 1000000 in
theorem check_nil (w : World) : Calls Tryz.prog 21 #[.slice none 0 0] w fun e w' => e = .returned (.tuple #[.string (bs (ksErr []).1), errV (ksErr []).2]) ∧ Below w.heap.size w w' := by
  go_enter Tryz.func21, Tryz.ntmps21
  go_wp2
  go_loopw [13] (fun i wr => i = .int .i64 0 ∧ wr = w) (fun i _ => 0)
  case atStart => exact ⟨rfl, rfl⟩
  case round =>
    obtain ⟨rfl, rfl⟩ := hrel
    go_wp2
    go_ret2
    exact ⟨rfl, Below.refl _ _⟩
set_option maxHeartbeats 1000000 in
theorem check_many (ao : Option Addr) (n cap : Nat) (w : World) (h : 12 < n) (hm : n ≤ maxLen) : Calls Tryz.prog 21 #[.slice ao n cap] w fun e w' => e = .returned (.tuple #[.string ⟨#[]⟩, .iface 60 (.int .i64 4)]) ∧ Below w.heap.size w w' := by
  unfold maxLen at hm
  go_enter Tryz.func21, Tryz.ntmps21
  go_wp2
  go_ret2
  exact ⟨rfl, Below.refl _ _⟩
theorem kcheck_any {v : Value} {L : List Kd} {w : World} (h : IsK w v L) (hP : Parts w L) (hz : SzK L) : Calls Tryz.prog 21 #[v] w fun e w' => e = .returned (.tuple #[.string (bs (ksErr L).1), errV (ksErr L).2]) ∧ Below w.heap.size w w' := by
  rcases h with ⟨rfl, rfl⟩ | ⟨b, off, cap, rfl, hc, hm, hb, hl⟩
  · exact check_nil w
  · by_cases h8 : 12 < L.length
    · have e : ksErr L = ([], 4) := by unfold ksErr; rw [if_pos h8]
      rw [e]; exact check_many _ _ _ _ h8 (by omega)
    · exact check_some b off cap L w hb hl hP hz (by omega) hc hm
end Go.Proofs.YtgjlonilbhlneaaGreatDoor

/-
  What package schema says, in plain functions: the fault of a schema, and its text; and how bonds lie in memory.
-/
namespace Go.Proofs.YtgjlonilbhlneaaGreatDoor
open Go.RowKit
set_option linter.unusedVariables false
set_option linter.unusedSimpArgs false

structure Bd where
  nm : Nm
  fr : Nm
  tt : Nm
  mn : Int
  mx : Int
def Bd.cells (x : Bd) : List Value := [.string (bs x.nm), .string (bs x.fr), .string (bs x.tt), .int .i64 x.mn, .int .i64 x.mx]
abbrev Bd.one (x : Bd) : Value := .agg #[.string (bs x.nm), .string (bs x.fr), .string (bs x.tt), .int .i64 x.mn, .int .i64 x.mx]
def LiesB (w : World) (b off : Nat) (l : List Bd) : Prop := ∀ i x, l[i]? = some x →
  w.cell? ⟨b, off + i * 5, none⟩ = some (.string (bs x.nm)) ∧ w.cell? ⟨b, off + i * 5 + 1, none⟩ = some (.string (bs x.fr)) ∧ w.cell? ⟨b, off + i * 5 + 2, none⟩ = some (.string (bs x.tt)) ∧ w.cell? ⟨b, off + i * 5 + 3, none⟩ = some (.int .i64 x.mn) ∧ w.cell? ⟨b, off + i * 5 + 4, none⟩ = some (.int .i64 x.mx)
def IsB (w : World) (v : Value) (l : List Bd) : Prop :=
  (v = .slice none 0 0 ∧ l = []) ∨ ∃ b off cap, v = .slice (some ⟨b, off, none⟩) l.length cap ∧ l.length ≤ cap ∧ cap ≤ maxLen ∧ b < w.heap.size ∧ LiesB w b off l
def SzB (l : List Bd) : Prop := ∀ x ∈ l, x.nm.length ≤ maxLen
theorem LiesB.on {w w' : World} {b off : Nat} {l : List Bd} (h : LiesB w b off l) (hb : b < w.heap.size) (hB : Below w.heap.size w w') : LiesB w' b off l := fun k p hp => by
  obtain ⟨c0, c1, c2, c3, c4⟩ := h k p hp
  exact ⟨(hB.cell hb).trans c0, (hB.cell hb).trans c1, (hB.cell hb).trans c2, (hB.cell hb).trans c3, (hB.cell hb).trans c4⟩
theorem IsB.on {w w' : World} {v : Value} {l : List Bd} (h : IsB w v l) (hB : Below w.heap.size w w') : IsB w' v l := by
  rcases h with h | ⟨b, off, cap, hv, hc, hm, hb, hl⟩
  · exact .inl h
  · exact .inr ⟨b, off, cap, hv, hc, hm, Nat.lt_of_lt_of_le hb hB.size, hl.on hb hB⟩
theorem LiesB.take {w : World} {b off : Nat} {l : List Bd} (h : LiesB w b off l) (i : Nat) : LiesB w b off (l.take i) := fun k n hn => by
  rw [List.getElem?_take] at hn
  split at hn
  · exact h k n hn
  · cases hn
theorem IsB.sln {w : World} {v : Value} {l : List Bd} (h : IsB w v l) : ∃ ao c, v = .slice ao l.length c ∧ l.length ≤ maxLen := by
  rcases h with ⟨rfl, rfl⟩ | ⟨b, off, cap, rfl, h1, h2, _⟩
  · exact ⟨_, _, rfl, by unfold maxLen; simp⟩
  · exact ⟨_, _, rfl, by omega⟩
theorem IsK.sln {w : World} {v : Value} {l : List Kd} (h : IsK w v l) : ∃ ao c, v = .slice ao l.length c ∧ l.length ≤ maxLen := by
  rcases h with ⟨rfl, rfl⟩ | ⟨b, off, cap, rfl, h1, h2, _⟩
  · exact ⟨_, _, rfl, by unfold maxLen; simp⟩
  · exact ⟨_, _, rfl, by omega⟩

def idxB (nm : Nm) : List Bd → Nat → Int
  | [], _ => -1
  | p :: r, k => if (p.nm == nm) = true then k else idxB nm r (k + 1)
theorem idxB_spec (nm : Nm) (L : List Bd) : ∀ k, idxB nm L k = -1 ∨ ∃ j q, idxB nm L k = ((k + j : Nat) : Int) ∧ L[j]? = some q ∧ q.nm = nm := by
  induction L with
  | nil => intro k; left; rfl
  | cons p r ih =>
    intro k
    by_cases h : (p.nm == nm) = true
    · right; exact ⟨0, p, by unfold idxB; rw [if_pos h]; simp, rfl, by simpa using h⟩
    · have e : idxB nm (p :: r) k = idxB nm r (k + 1) := by
        conv => lhs; unfold idxB
        rw [if_neg h]
      rw [e]
      rcases ih (k + 1) with h1 | ⟨j, q, h1, h2, h3⟩
      · exact .inl h1
      · exact .inr ⟨j + 1, q, by rw [h1]; congr 1; omega, by simpa using h2, h3⟩
def inR (mn mx : Int) : Bool := decide (0 ≤ mn ∧ mn ≤ 20 ∧ (mx = -1 ∨ (mn ≤ mx ∧ mx ≤ 20)))
def hasK (L : List Kd) (n : Nm) : Bool := decide (0 ≤ idxK n L 0)
def bErr (L : List Kd) (A : List Bd) (x : Bd) : Int :=
  if nErr x.nm = 0 then (if idxB x.nm A 0 = -1 then (if hasK L x.fr = true then (if hasK L x.tt = true then (if inR x.mn x.mx = true then 0 else 1) else 5) else 5) else 7) else nErr x.nm
def bsGo (L : List Kd) : List Bd → List Bd → Nm × Int
  | _, [] => ([], 0)
  | A, x :: r => if bErr L A x = 0 then bsGo L (A ++ [x]) r else (x.nm, bErr L A x)
def sErr (L : List Kd) (B : List Bd) : Nm × Int := if (ksErr L).2 = 0 then (if 12 < B.length then ([], 4) else bsGo L [] B) else ksErr L

def tyW (t : Int) : Nm := if t = 1 then [105, 110, 116] else if t = 2 then [98, 111, 111, 108] else if t = 3 then [116, 101, 120, 116] else []
def fText (f : Fd) : Nm := f.nm ++ [58] ++ tyW f.t ++ (if f.key = true then [42] else if f.must = true then [33] else [])
def kWords (k : Kd) : List Nm := [[107, 105, 110, 100], k.nm] ++ (if k.of = [] then [] else [[111, 102], Lib.join k.of [44]]) ++ k.fs.map fText
def mxW (n : Int) : Nm := if n = -1 then [97, 110, 121] else Lib.itoa n
def bWords (x : Bd) : List Nm := [[98, 111, 110, 100], x.nm, x.fr, x.tt, Lib.itoa x.mn, mxW x.mx]
def lineL (ws : List Nm) : Nm := Lib.join ws [32] ++ [10]
def kText (L : List Kd) : Nm := L.flatMap fun k => lineL (kWords k)
def bText (B : List Bd) : Nm := B.flatMap fun x => lineL (bWords x)
def sText (L : List Kd) (B : List Bd) : Nm := kText L ++ bText B

def GoodB (L : List Kd) (B : List Bd) : Prop := ∀ i x, B[i]? = some x → bErr L (B.take i) x = 0
theorem bsGo_good (L : List Kd) (B : List Bd) : ∀ A, (bsGo L A B).2 = 0 ↔ ∀ i x, B[i]? = some x → bErr L (A ++ B.take i) x = 0 := by
  induction B with
  | nil => intro A; simp [bsGo]
  | cons k r ih =>
    intro A
    constructor
    · intro h i x hx
      unfold bsGo at h
      split at h
      · rename_i h0
        cases i with
        | zero =>
          obtain rfl : k = x := by simpa using hx
          simpa using h0
        | succ i =>
          have := (ih (A ++ [k])).1 h i x (by simpa using hx)
          simpa [List.append_assoc] using this
      · rename_i h0; exact absurd h h0
    · intro h
      have h0 : bErr L A k = 0 := by simpa using h 0 k rfl
      unfold bsGo
      rw [if_pos h0]
      refine (ih (A ++ [k])).2 fun i x hx => ?_
      have := h (i + 1) x (by simpa using hx)
      simpa [List.append_assoc] using this
theorem sErr_good {L : List Kd} {B : List Bd} : (sErr L B).2 = 0 ↔ (ksErr L).2 = 0 ∧ GoodB L B ∧ B.length ≤ 12 := by
  unfold sErr
  by_cases h1 : (ksErr L).2 = 0
  · rw [if_pos h1]
    by_cases h2 : 12 < B.length
    · rw [if_pos h2]
      exact ⟨fun h => by simp at h, fun ⟨_, _, h⟩ => by omega⟩
    · rw [if_neg h2, bsGo_good]
      constructor
      · intro h; exact ⟨h1, fun i x hx => by simpa using h i x hx, by omega⟩
      · rintro ⟨_, h, _⟩ i x hx; simpa using h i x hx
  · rw [if_neg h1]
    exact ⟨fun h => absurd h h1, fun ⟨h, _⟩ => absurd h h1⟩
theorem bErr_zero {L : List Kd} {A : List Bd} {x : Bd} (h : bErr L A x = 0) : nErr x.nm = 0 ∧ idxB x.nm A 0 = -1 ∧ hasK L x.fr = true ∧ hasK L x.tt = true ∧ inR x.mn x.mx = true := by
  unfold bErr at h
  split at h
  · rename_i h1
    split at h
    · rename_i h2
      split at h
      · rename_i h3
        split at h
        · rename_i h4
          split at h
          · rename_i h5; exact ⟨h1, h2, h3, h4, h5⟩
          · exact absurd h (by decide)
        · exact absurd h (by decide)
      · exact absurd h (by decide)
    · exact absurd h (by decide)
  · rename_i h1; exact absurd h h1
theorem inR_iff {mn mx : Int} : inR mn mx = true ↔ 0 ≤ mn ∧ mn ≤ 20 ∧ (mx = -1 ∨ (mn ≤ mx ∧ mx ≤ 20)) := by unfold inR; simp
theorem hasK_iff {L : List Kd} {n : Nm} : hasK L n = true ↔ ∃ x ∈ L, x.nm = n := by
  unfold hasK
  rw [decide_eq_true_iff]
  constructor
  · intro h
    rcases idxK_spec n L 0 with h1 | ⟨j, q, _, h2, h3⟩
    · omega
    · exact ⟨q, List.mem_of_getElem? h2, h3⟩
  · rintro ⟨x, hx, hn⟩
    rcases idxK_spec n L 0 with h1 | ⟨j, q, h1, _, _⟩
    · exact absurd hn (idxK_neg_iff.1 h1 x hx)
    · omega
end Go.Proofs.YtgjlonilbhlneaaGreatDoor

/-
  The small walks of package schema: where a bond stands, whether a kind is there, whether a bond may have its numbers; the fault of a bond.
-/
namespace Go.Proofs.YtgjlonilbhlneaaGreatDoor
open Go.RowKit
set_option linter.unusedVariables false
set_option linter.unusedSimpArgs false

set_option maxHeartbeats 1000000 in
theorem bname_any (k : Bd) (b : Nat) (s : Nm) (w : World) (hc : w.cell? ⟨b, 0, none⟩ = some (.string (bs s))) (hb : b < w.heap.size) :
    Calls Tryz.prog 62 #[k.one, .pointer (some ⟨b, 0, none⟩)] w fun e w' => e = .returned (.bool (k.nm == s)) ∧ w' = w.alloc (.cells #[.string (bs k.nm), .string (bs k.fr), .string (bs k.tt), .int .i64 k.mn, .int .i64 k.mx] 40) := by
  go_enter Tryz.func62, Tryz.ntmps62
  go_wp2
  go_ret
  exact ⟨by simp, rfl⟩
set_option maxHeartbeats 4000000 in
set_option maxRecDepth 100000 in
theorem idxFB_some (b off cap : Nat) (L : List Bd) (bn : Nat) (s : Nm) (w : World) (hb : b < w.heap.size) (hL : LiesB w b off L) (hn : L.length ≤ 12) (hbn : bn < w.heap.size) (hc : w.cell? ⟨bn, 0, none⟩ = some (.string (bs s))) :
    Calls Tryz.prog 61 #[.slice (some ⟨b, off, none⟩) L.length cap, .func (.func 62) #[] #[.pointer (some ⟨bn, 0, none⟩)]] w fun e w' => e = .returned (.int .i64 (idxB s L 0)) ∧ Below w.heap.size w w' := by
  go_enter Tryz.func61, Tryz.ntmps61
  go_wp2
  go_loopw [8] (fun i wr => ∃ k : Nat, k ≤ L.length ∧ i = .int .i64 k ∧ idxB s L 0 = idxB s (L.drop k) k ∧ Below w.heap.size w wr) (fun i _ => L.length - (intOf i).toNat)
  case atStart => exact ⟨0, Nat.zero_le _, rfl, rfl, Below.refl _ _⟩
  case round =>
    obtain ⟨k, hk, rfl, hi, hB⟩ := hrel
    have HI : Hid (idxB s L 0 = idxB s (L.drop k) k) := hi
    clear hi
    by_cases hlt : k < L.length
    · obtain ⟨p, hp⟩ : ∃ p, L[k]? = some p := ⟨L[k], by simp [hlt]⟩
      obtain ⟨c0, c1, c2, c3, c4⟩ := hL k p hp
      have d0 := (hB.cell (p := ⟨b, off + k * 5, none⟩) hb).trans c0
      have d1 := (hB.cell (p := ⟨b, off + k * 5 + 1, none⟩) hb).trans c1
      have d2 := (hB.cell (p := ⟨b, off + k * 5 + 2, none⟩) hb).trans c2
      have d3 := (hB.cell (p := ⟨b, off + k * 5 + 3, none⟩) hb).trans c3
      have d4 := (hB.cell (p := ⟨b, off + k * 5 + 4, none⟩) hb).trans c4
      have HD : Hid (L.drop k = p :: L.drop (k + 1)) := dropK hp
      have cn := bname_any p bn s wr ((hB.cell (p := ⟨bn, 0, none⟩) hbn).trans hc) (Nat.lt_of_lt_of_le hbn hB.size)
      clear c0 c1 c2 c3 c4 hp hL hc
      by_cases hq : (p.nm == s) = true
      · have H : Hid (idxB s L 0 = k) := by
          show _ = _
          rw [HI.out, HD.out]; unfold idxB; rw [if_pos hq]
        rw [hq] at cn
        clear HI HD hq
        go_wp2_with (go_at_call 62; refine cn.mono ?_; rintro e w' ⟨rfl, rfl⟩)
        go_ret
        exact ⟨ret_v (by rw [H.out]; rfl), b_alloc hB (Nat.le_refl _) _⟩
      · have H : Hid (idxB s L 0 = idxB s (L.drop (k + 1)) (k + 1)) := by
          show _ = _
          rw [HI.out, HD.out]; conv => lhs; unfold idxB
          rw [if_neg hq]
        have hq' : (p.nm == s) = false := by simpa using hq
        rw [hq'] at cn
        clear HI HD hq hq'
        go_wp2_with (go_at_call 62; refine cn.mono ?_; rintro e w' ⟨rfl, rfl⟩)
        go_roundw
        case rel => exact ⟨k + 1, by omega, by go_num, H.out, b_alloc hB (Nat.le_refl _) _⟩
        case measure => simp [intOf]; omega
    · have hd : L.drop k = [] := List.drop_eq_nil_of_le (by omega)
      have H : Hid (idxB s L 0 = -1) := by
        show _ = _
        rw [HI.out, hd]; rfl
      clear HI hd hL hc
      go_wp2
      go_ret
      exact ⟨ret_v (by rw [H.out]; rfl), hB⟩
set_option maxHeartbeats 1000000 in
theorem idxFB_nil (f : Value) (w : World) :
    Calls Tryz.prog 61 #[.slice none 0 0, f] w fun e w' => e = .returned (.int .i64 (-1)) ∧ Below w.heap.size w w' := by
  go_enter Tryz.func61, Tryz.ntmps61
  go_wp2
  go_loopw [8] (fun i wr => i = .int .i64 0 ∧ wr = w) (fun i _ => 0)
  case atStart => exact ⟨rfl, rfl⟩
  case round =>
    obtain ⟨rfl, rfl⟩ := hrel
    go_wp2
    go_ret
    exact ⟨rfl, Below.refl _ _⟩
theorem idxFB_any {v : Value} {L : List Bd} {w : World} (h : IsB w v L) (hn : L.length ≤ 12) (bn : Nat) (s : Nm) (hbn : bn < w.heap.size) (hc : w.cell? ⟨bn, 0, none⟩ = some (.string (bs s))) :
    Calls Tryz.prog 61 #[v, .func (.func 62) #[] #[.pointer (some ⟨bn, 0, none⟩)]] w fun e w' => e = .returned (.int .i64 (idxB s L 0)) ∧ Below w.heap.size w w' := by
  rcases h with ⟨rfl, rfl⟩ | ⟨b, off, cap, rfl, hcap, hm, hb, hl⟩
  · exact idxFB_nil _ w
  · exact idxFB_some b off cap L bn s w hb hl hn hbn hc
set_option maxHeartbeats 1000000 in
theorem bondIndex_any {v : Value} {L : List Bd} {w : World} (h : IsB w v L) (hn : L.length ≤ 12) (s : Nm) :
    Calls Tryz.prog 38 #[v, .string (bs s)] w fun e w' => e = .returned (.int .i64 (idxB s L 0)) ∧ Below w.heap.size w w' := by
  have hB0 : Below w.heap.size w (w.alloc (.cells #[.string (bs s)] 9)) := b_alloc (Below.refl _ _) (Nat.le_refl _) _
  have c := idxFB_any (h.on hB0) hn w.heap.size s (by simp) (by simp)
  generalize idxB s L 0 = r at c ⊢
  clear h hn
  go_enter Tryz.func38, Tryz.ntmps38
  go_wp2_with (go_at_call 61; refine c.mono ?_; rintro e w' ⟨rfl, hB1⟩)
  go_ret
  exact ⟨rfl, on1 hB0 hB1 (Nat.le_refl _)⟩
set_option maxHeartbeats 1000000 in
theorem kname_any (k : Kd) (b : Nat) (s : Nm) (w : World) (hc : w.cell? ⟨b, 0, none⟩ = some (.string (bs s))) (hb : b < w.heap.size) :
    Calls Tryz.prog 74 #[k.one, .pointer (some ⟨b, 0, none⟩)] w fun e w' => e = .returned (.bool (k.nm == s)) ∧ w' = w.alloc (.cells #[.string (bs k.nm), k.vo, k.vf] 55) := by
  go_enter Tryz.func74, Tryz.ntmps74
  go_wp2
  go_ret
  exact ⟨by simp, rfl⟩
set_option maxHeartbeats 4000000 in
set_option maxRecDepth 100000 in
theorem idxH_some (b off cap : Nat) (L : List Kd) (bn : Nat) (s : Nm) (w : World) (hb : b < w.heap.size) (hL : LiesK w b off L) (hn : L.length ≤ 12) (hbn : bn < w.heap.size) (hc : w.cell? ⟨bn, 0, none⟩ = some (.string (bs s))) :
    Calls Tryz.prog 90 #[.slice (some ⟨b, off, none⟩) L.length cap, .func (.func 74) #[] #[.pointer (some ⟨bn, 0, none⟩)]] w fun e w' => e = .returned (.int .i64 (idxK s L 0)) ∧ Below w.heap.size w w' := by
  go_enter Tryz.func90, Tryz.ntmps90
  go_wp2
  go_loopw [8] (fun i wr => ∃ k : Nat, k ≤ L.length ∧ i = .int .i64 k ∧ idxK s L 0 = idxK s (L.drop k) k ∧ Below w.heap.size w wr) (fun i _ => L.length - (intOf i).toNat)
  case atStart => exact ⟨0, Nat.zero_le _, rfl, rfl, Below.refl _ _⟩
  case round =>
    obtain ⟨k, hk, rfl, hi, hB⟩ := hrel
    have HI : Hid (idxK s L 0 = idxK s (L.drop k) k) := hi
    clear hi
    by_cases hlt : k < L.length
    · obtain ⟨p, hp⟩ : ∃ p, L[k]? = some p := ⟨L[k], by simp [hlt]⟩
      obtain ⟨c0, c1, c2⟩ := hL k p hp
      have d0 := (hB.cell (p := ⟨b, off + k * 3, none⟩) hb).trans c0
      have d1 := (hB.cell (p := ⟨b, off + k * 3 + 1, none⟩) hb).trans c1
      have d2 := (hB.cell (p := ⟨b, off + k * 3 + 2, none⟩) hb).trans c2
      have HD : Hid (L.drop k = p :: L.drop (k + 1)) := dropK hp
      have cn := kname_any p bn s wr ((hB.cell (p := ⟨bn, 0, none⟩) hbn).trans hc) (Nat.lt_of_lt_of_le hbn hB.size)
      clear c0 c1 c2 hp hL hc
      by_cases hq : (p.nm == s) = true
      · have H : Hid (idxK s L 0 = k) := by
          show _ = _
          rw [HI.out, HD.out]; unfold idxK; rw [if_pos hq]
        rw [hq] at cn
        clear HI HD hq
        go_wp2_with (go_at_call 74; refine cn.mono ?_; rintro e w' ⟨rfl, rfl⟩)
        go_ret
        exact ⟨ret_v (by rw [H.out]; rfl), b_alloc hB (Nat.le_refl _) _⟩
      · have H : Hid (idxK s L 0 = idxK s (L.drop (k + 1)) (k + 1)) := by
          show _ = _
          rw [HI.out, HD.out]; conv => lhs; unfold idxK
          rw [if_neg hq]
        have hq' : (p.nm == s) = false := by simpa using hq
        rw [hq'] at cn
        clear HI HD hq hq'
        go_wp2_with (go_at_call 74; refine cn.mono ?_; rintro e w' ⟨rfl, rfl⟩)
        go_roundw
        case rel => exact ⟨k + 1, by omega, by go_num, H.out, b_alloc hB (Nat.le_refl _) _⟩
        case measure => simp [intOf]; omega
    · have hd : L.drop k = [] := List.drop_eq_nil_of_le (by omega)
      have H : Hid (idxK s L 0 = -1) := by
        show _ = _
        rw [HI.out, hd]; rfl
      clear HI hd hL hc
      go_wp2
      go_ret
      exact ⟨ret_v (by rw [H.out]; rfl), hB⟩
theorem idxH_any {v : Value} {L : List Kd} {w : World} (h : IsK w v L) (hn : L.length ≤ 12) (bn : Nat) (s : Nm) (hbn : bn < w.heap.size) (hc : w.cell? ⟨bn, 0, none⟩ = some (.string (bs s))) :
    Calls Tryz.prog 90 #[v, .func (.func 74) #[] #[.pointer (some ⟨bn, 0, none⟩)]] w fun e w' => e = .returned (.int .i64 (idxK s L 0)) ∧ Below w.heap.size w w' := by
  rcases h with ⟨rfl, rfl⟩ | ⟨b, off, cap, rfl, hcap, hm, hb, hl⟩
  · exact idxF_nil _ w
  · exact idxH_some b off cap L bn s w hb hl hn hbn hc
set_option maxHeartbeats 1000000 in
theorem hasKind_any {v : Value} {L : List Kd} {w : World} (h : IsK w v L) (hn : L.length ≤ 12) (s : Nm) :
    Calls Tryz.prog 46 #[v, .string (bs s)] w fun e w' => e = .returned (.bool (hasK L s)) ∧ Below w.heap.size w w' := by
  have hB0 : Below w.heap.size w (w.alloc (.cells #[.string (bs s)] 9)) := b_alloc (Below.refl _ _) (Nat.le_refl _) _
  have c := idxH_any (h.on hB0) hn w.heap.size s (by simp) (by simp)
  have H : Hid (decide (0 ≤ idxK s L 0) = hasK L s) := rfl
  generalize idxK s L 0 = r at c H
  have c2 : Calls Tryz.prog 73 #[v, .func (.func 74) #[] #[.pointer (some ⟨w.heap.size, 0, none⟩)]] (w.alloc (.cells #[.string (bs s)] 9)) fun e w' => e = .returned (.bool (decide (0 ≤ r))) ∧ Below (w.alloc (.cells #[.string (bs s)] 9)).heap.size (w.alloc (.cells #[.string (bs s)] 9)) w' := by
    generalize w.alloc (.cells #[.string (bs s)] 9) = W at c ⊢
    go_enter Tryz.func73, Tryz.ntmps73
    go_wp2_with (go_at_call 90; refine c.mono ?_; rintro e w' ⟨rfl, hB1⟩)
    go_ret
    exact ⟨rfl, hB1⟩
  rw [H.out] at c2
  clear h hn c H
  go_enter Tryz.func46, Tryz.ntmps46
  go_wp2_with (go_at_call 73; refine c2.mono ?_; rintro e w' ⟨rfl, hB1⟩)
  go_ret
  exact ⟨rfl, on1 hB0 hB1 (Nat.le_refl _)⟩
set_option maxHeartbeats 2000000 in
theorem inRange_any (mn mx : Int) (w : World) : Calls Tryz.prog 47 #[.int .i64 mn, .int .i64 mx] w fun e w' => e = .returned (.bool (inR mn mx)) ∧ w' = w := by
  have key : (mn < 0) ∨ (¬ mn < 0 ∧ 20 < mn) ∨ (0 ≤ mn ∧ mn ≤ 20 ∧ mx = -1) ∨ (0 ≤ mn ∧ mn ≤ 20 ∧ ¬ mx = -1 ∧ ¬ mn ≤ mx) ∨ (0 ≤ mn ∧ mn ≤ 20 ∧ ¬ mx = -1 ∧ mn ≤ mx ∧ mx ≤ 20) ∨ (0 ≤ mn ∧ mn ≤ 20 ∧ ¬ mx = -1 ∧ mn ≤ mx ∧ ¬ mx ≤ 20) := by omega
  have HI : Hid (∀ c : Bool, (c = true ↔ (0 ≤ mn ∧ mn ≤ 20 ∧ (mx = -1 ∨ (mn ≤ mx ∧ mx ≤ 20)))) → c = inR mn mx) := fun c h => by
    rw [Bool.eq_iff_iff, inR_iff]; exact h
  rcases key with h | ⟨h, h2⟩ | ⟨h, h2, rfl⟩ | ⟨h, h2, h3, h4⟩ | ⟨h, h2, h3, h4, h5⟩ | ⟨h, h2, h3, h4, h5⟩
  · go_enter Tryz.func47, Tryz.ntmps47
    go_wp2
    go_ret
    exact ⟨ret_bool (HI.out false (by simp; omega)), rfl⟩
  · go_enter Tryz.func47, Tryz.ntmps47
    go_wp2
    go_ret
    exact ⟨ret_bool (HI.out false (by simp; omega)), rfl⟩
  · have g1 : ¬ mn < 0 := by omega
    have g2 : ¬ 20 < mn := by omega
    go_enter Tryz.func47, Tryz.ntmps47
    go_wp2
    go_ret
    exact ⟨ret_bool (HI.out true (by simp; omega)), rfl⟩
  all_goals
    have g1 : ¬ mn < 0 := by omega
    have g2 : ¬ 20 < mn := by omega
    have g3 : (mx == -1) = false := by simpa using h3
    go_enter Tryz.func47, Tryz.ntmps47
    go_wp2
    go_ret
    first | exact ⟨ret_bool (HI.out false (by simp; omega)), rfl⟩ | exact ⟨ret_bool (HI.out true (by simp; omega)), rfl⟩
end Go.Proofs.YtgjlonilbhlneaaGreatDoor
