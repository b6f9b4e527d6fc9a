import Derived.Test.YtahamkajkkkjdaaGreatDoorM03
import Derived.Laws.Cover1
import Derived.Lib.Bytealg
import Derived.WalkKit
import Derived.Lib.Walk
import Derived.Laws.AppendOwn
import Derived.Laws.CopyOwn
import Derived.Lib.AppendZerosOnto
import Derived.Lib.Overlaps
import Derived.Laws.NewBlocks
namespace Go.Proofs.YtahamkajkkkjdaaGreatDoor
open Go.RowKit
set_option linter.unusedVariables false
set_option linter.unusedSimpArgs false
abbrev Nm := List UInt8
def bs (l : Nm) : ByteArray := ⟨l.toArray⟩
theorem bs_toList (l : Nm) : (bs l).toList = l := by rw [Lib.toList_data]; simp [bs]
theorem bs_data (l : Nm) : (bs l).data.toList = l := by simp [bs]
theorem bs_self (s : ByteArray) : bs s.toList = s := by rw [Lib.toList_data]; cases s; simp [bs]
theorem bs_size (l : Nm) : (bs l).size = l.length := by simp [bs, ByteArray.size]
attribute [simp, go_sem] bs_toList bs_data
structure Fd where
  nm : Nm
  t : Int
  must : Bool
  key : Bool
structure Kd where
  nm : Nm
  of : List Nm
  fs : List Fd
  vo : Value
  vf : Value
def Fd.cells (f : Fd) : List Value := [.string (bs f.nm), .int .i64 f.t, .bool f.must, .bool f.key]
abbrev Fd.one (f : Fd) : Value := .agg #[.string (bs f.nm), .int .i64 f.t, .bool f.must, .bool f.key]
def Kd.cells (k : Kd) : List Value := [.string (bs k.nm), k.vo, k.vf]
abbrev Kd.one (k : Kd) : Value := .agg #[.string (bs k.nm), k.vo, k.vf]
def feq (a b : Fd) : Bool := a.nm == b.nm && a.t == b.t && a.must == b.must && a.key == b.key
theorem feq_iff (a b : Fd) : feq a b = true ↔ a = b := by
  cases a; cases b
  simp [feq, and_assoc]
def idxK (nm : Nm) : List Kd → Nat → Int
  | [], _ => -1
  | p :: r, k => if (p.nm == nm) = true then k else idxK nm r (k + 1)
def hasN (l : List Nm) (nm : Nm) : Bool := l.contains nm
def back : List Kd → List Nm → List Kd
  | [], _ => []
  | k :: r, ns => if hasN ns k.nm = true then k :: back r (ns ++ k.of) else back r ns
def kinOf (L : List Kd) : List Kd := match L.getLast? with
  | none => []
  | some k => (back L.reverse [k.nm]).reverse
def lo (nm : Nm) : List Fd → Nat
  | [] => 0
  | g :: r => if Op.bytesLess g.nm nm = true then lo nm r + 1 else 0
def insF (all : List Fd) (f : Fd) : Option (List Fd) := match all[lo f.nm all]? with
  | some g => if (g.nm == f.nm) = true then (if feq g f = true then some all else none) else some (all.take (lo f.nm all) ++ f :: all.drop (lo f.nm all))
  | none => some (all.take (lo f.nm all) ++ f :: all.drop (lo f.nm all))
def fOf : List Fd → List Fd → Option (List Fd)
  | all, [] => some all
  | all, f :: r => match insF all f with
    | some a => fOf a r
    | none => none
def fieldsOf (K : List Kd) : Option (List Fd) := fOf [] (K.flatMap Kd.fs)
def fBad (o : Option Fd) (f : Fd) : Int :=
  if nErr f.nm = 0 then (if f.t = 1 ∨ f.t = 2 ∨ f.t = 3 then (if (f.key && !f.must) = true then 3 else (match o with
    | none => 0
    | some q => if (Op.bytesLess f.nm q.nm || f.nm == q.nm) = true then 7 else 0)) else 8) else nErr f.nm
def fChk : Option Fd → List Fd → Int
  | _, [] => 0
  | o, f :: r => if fBad o f = 0 then fChk (some f) r else fBad o f
def oChk (A : List Kd) : List Nm → List Nm → Int
  | _, [] => 0
  | seen, n :: r => if idxK n A 0 = -1 then 5 else if hasN seen n = true then 7 else oChk A (seen ++ [n]) r
def aErr (o : Option (List Fd)) : Int := match o with
  | none => 7
  | some l => if 8 < l.length then 4 else 0
def kErr (A : List Kd) (k : Kd) : Int :=
  if nErr k.nm = 0 then (if idxK k.nm A 0 = -1 then (if 4 < k.of.length ∨ 8 < k.fs.length then 4 else
    (if oChk A [] k.of = 0 then (if fChk none k.fs = 0 then aErr (fieldsOf (kinOf (A ++ [k]))) else fChk none k.fs) else oChk A [] k.of)) else 7) else nErr k.nm
def ksGo : List Kd → List Kd → Nm × Int
  | _, [] => ([], 0)
  | A, k :: r => if kErr A k = 0 then ksGo (A ++ [k]) r else (k.nm, kErr A k)
def ksErr (L : List Kd) : Nm × Int := if 12 < L.length then ([], 4) else ksGo [] L
def nmErr (L : List Kd) (a : Nm) : Int := if (ksErr L).2 = 0 then (if idxK a L 0 = -1 then 5 else 0) else (ksErr L).2
def nmAt (L : List Kd) (a : Nm) : Nat := (idxK a L 0).toNat
def kin (L : List Kd) (a : Nm) : List Kd := kinOf (L.take (nmAt L a + 1))
def unds (L : List Kd) (a : Nm) : List Nat → List Nm
  | [] => []
  | i :: r => match L[i]? with
    | some k => if idxK a (kinOf (L.take (i + 1))) 0 = -1 then unds L a r else k.nm :: unds L a r
    | none => unds L a r
def under (L : List Kd) (a : Nm) : List Nm := unds L a (List.range L.length)
def fields (L : List Kd) (a : Nm) : List Fd := (fieldsOf (kin L a)).getD []
def LiesS (w : World) (b off : Nat) (l : List Nm) : Prop := ∀ k n, l[k]? = some n → w.cell? ⟨b, off + k, none⟩ = some (.string (bs n))
def IsS (w : World) (v : Value) (l : List Nm) : Prop :=
  (∃ ao c, v = .slice ao 0 c ∧ l = [] ∧ c ≤ maxLen ∧ (ao = none → c = 0)) ∨ ∃ b off cap, v = .slice (some ⟨b, off, none⟩) l.length cap ∧ l.length ≤ cap ∧ cap ≤ maxLen ∧ b < w.heap.size ∧ LiesS w b off l
def LiesF (w : World) (b off : Nat) (l : List Fd) : Prop := ∀ k f, l[k]? = some f →
  w.cell? ⟨b, off + k * 4, none⟩ = some (.string (bs f.nm)) ∧ w.cell? ⟨b, off + k * 4 + 1, none⟩ = some (.int .i64 f.t) ∧ w.cell? ⟨b, off + k * 4 + 2, none⟩ = some (.bool f.must) ∧ w.cell? ⟨b, off + k * 4 + 3, none⟩ = some (.bool f.key)
def IsF (w : World) (v : Value) (l : List Fd) : Prop :=
  (∃ ao c, v = .slice ao 0 c ∧ l = [] ∧ c ≤ maxLen ∧ (ao = none → c = 0)) ∨ ∃ b off cap, v = .slice (some ⟨b, off, none⟩) l.length cap ∧ l.length ≤ cap ∧ cap ≤ maxLen ∧ b < w.heap.size ∧ LiesF w b off l
def LiesK (w : World) (b off : Nat) (l : List Kd) : Prop := ∀ i k, l[i]? = some k →
  w.cell? ⟨b, off + i * 3, none⟩ = some (.string (bs k.nm)) ∧ w.cell? ⟨b, off + i * 3 + 1, none⟩ = some k.vo ∧ w.cell? ⟨b, off + i * 3 + 2, none⟩ = some k.vf
def Parts (w : World) (l : List Kd) : Prop := ∀ k ∈ l, IsS w k.vo k.of ∧ IsF w k.vf k.fs
def IsK (w : World) (v : Value) (l : List Kd) : Prop :=
  (v = .slice none 0 0 ∧ l = []) ∨ ∃ b off cap, v = .slice (some ⟨b, off, none⟩) l.length cap ∧ l.length ≤ cap ∧ cap ≤ maxLen ∧ b < w.heap.size ∧ LiesK w b off l
theorem LiesS.on {w w' : World} {b off : Nat} {l : List Nm} (h : LiesS w b off l) (hb : b < w.heap.size) (hB : Below w.heap.size w w') : LiesS w' b off l := fun k n hn => (hB.cell hb).trans (h k n hn)
theorem IsS.on {w w' : World} {v : Value} {l : List Nm} (h : IsS w v l) (hB : Below w.heap.size w w') : IsS w' v l := by
  rcases h with h | ⟨b, off, cap, hv, hc, hm, hb, hl⟩
  · exact .inl h
  · exact .inr ⟨b, off, cap, hv, hc, hm, Nat.lt_of_lt_of_le hb hB.size, hl.on hb hB⟩
theorem LiesF.on {w w' : World} {b off : Nat} {l : List Fd} (h : LiesF w b off l) (hb : b < w.heap.size) (hB : Below w.heap.size w w') : LiesF w' b off l := fun k p hp => by
  obtain ⟨c0, c1, c2, c3⟩ := h k p hp
  exact ⟨(hB.cell hb).trans c0, (hB.cell hb).trans c1, (hB.cell hb).trans c2, (hB.cell hb).trans c3⟩
theorem IsF.on {w w' : World} {v : Value} {l : List Fd} (h : IsF w v l) (hB : Below w.heap.size w w') : IsF w' v l := by
  rcases h with h | ⟨b, off, cap, hv, hc, hm, hb, hl⟩
  · exact .inl h
  · exact .inr ⟨b, off, cap, hv, hc, hm, Nat.lt_of_lt_of_le hb hB.size, hl.on hb hB⟩
theorem LiesK.on {w w' : World} {b off : Nat} {l : List Kd} (h : LiesK w b off l) (hb : b < w.heap.size) (hB : Below w.heap.size w w') : LiesK w' b off l := fun k p hp => by
  obtain ⟨c0, c1, c2⟩ := h k p hp
  exact ⟨(hB.cell hb).trans c0, (hB.cell hb).trans c1, (hB.cell hb).trans c2⟩
theorem IsK.on {w w' : World} {v : Value} {l : List Kd} (h : IsK w v l) (hB : Below w.heap.size w w') : IsK w' v l := by
  rcases h with h | ⟨b, off, cap, hv, hc, hm, hb, hl⟩
  · exact .inl h
  · exact .inr ⟨b, off, cap, hv, hc, hm, Nat.lt_of_lt_of_le hb hB.size, hl.on hb hB⟩
theorem Parts.on {w w' : World} {l : List Kd} (h : Parts w l) (hB : Below w.heap.size w w') : Parts w' l := fun k hk => ⟨(h k hk).1.on hB, (h k hk).2.on hB⟩
theorem Parts.sub {w : World} {l m : List Kd} (h : Parts w l) (hs : ∀ k ∈ m, k ∈ l) : Parts w m := fun k hk => h k (hs k hk)
theorem LiesS.take {w : World} {b off : Nat} {l : List Nm} (h : LiesS w b off l) (i : Nat) : LiesS w b off (l.take i) := fun k n hn => by
  rw [List.getElem?_take] at hn
  split at hn
  · exact h k n hn
  · cases hn
theorem LiesK.take {w : World} {b off : Nat} {l : List Kd} (h : LiesK w b off l) (i : Nat) : LiesK w b off (l.take i) := fun k n hn => by
  rw [List.getElem?_take] at hn
  split at hn
  · exact h k n hn
  · cases hn
theorem idxK_spec (nm : Nm) (L : List Kd) : ∀ k, idxK nm L k = -1 ∨ ∃ j q, idxK nm L k = ((k + j : Nat) : Int) ∧ L[j]? = some q ∧ q.nm = nm := by
  induction L with
  | nil => intro k; left; rfl
  | cons p r ih =>
    intro k
    by_cases h : (p.nm == nm) = true
    · right; exact ⟨0, p, by unfold idxK; rw [if_pos h]; simp, rfl, by simpa using h⟩
    · have e : idxK nm (p :: r) k = idxK nm r (k + 1) := by
        conv => lhs; unfold idxK
        rw [if_neg h]
      rw [e]
      rcases ih (k + 1) with h1 | ⟨j, q, h1, h2, h3⟩
      · exact .inl h1
      · exact .inr ⟨j + 1, q, by rw [h1]; congr 1; omega, by simpa using h2, h3⟩
theorem dropK {α : Type} {L : List α} {k : Nat} {p : α} (h : L[k]? = some p) : L.drop k = p :: L.drop (k + 1) := by
  obtain ⟨hk, rfl⟩ := List.getElem?_eq_some_iff.1 h
  exact List.drop_eq_getElem_cons hk
theorem takeK {α : Type} {L : List α} {k : Nat} {p : α} (h : L[k]? = some p) : L.take (k + 1) = L.take k ++ [p] := by
  rw [List.take_add_one, h]; rfl
end Go.Proofs.YtahamkajkkkjdaaGreatDoor
namespace Go.Proofs.YtahamkajkkkjdaaGreatDoor
open Go.RowKit
set_option linter.unusedVariables false
set_option linter.unusedSimpArgs false
def cl : List Kd → List Nm → List Nm
  | [], ns => ns
  | k :: r, ns => if hasN ns k.nm = true then cl r (ns ++ k.of) else cl r ns
def RightR : List Kd → Prop
  | [] => True
  | k :: r => (∀ x ∈ r, x.nm ≠ k.nm) ∧ (∀ n ∈ k.of, ∃ x ∈ r, x.nm = n) ∧ RightR r
theorem snoc_ind {P : List Kd → Prop} (h0 : P []) (h1 : ∀ A k, P A → P (A ++ [k])) (L : List Kd) : P L := by
  have h : ∀ R : List Kd, P R.reverse := by
    intro R
    induction R with
    | nil => exact h0
    | cons k R ih => rw [List.reverse_cons]; exact h1 _ _ ih
  simpa using h L.reverse
def Right (L : List Kd) : Prop := RightR L.reverse
theorem right_snoc {A : List Kd} {k : Kd} : Right (A ++ [k]) ↔ (∀ x ∈ A, x.nm ≠ k.nm) ∧ (∀ n ∈ k.of, ∃ x ∈ A, x.nm = n) ∧ Right A := by
  unfold Right
  simp [RightR]
theorem cmpB_antiC (a b : List UInt8) : Lib.compareBytes b a = -Lib.compareBytes a b := by
  induction a generalizing b with
  | nil => cases b <;> simp [Lib.compareBytes]
  | cons c r ih =>
    cases b with
    | nil => simp [Lib.compareBytes]
    | cons d q =>
      simp only [Lib.compareBytes]
      by_cases h1 : c < d
      · have h2 : ¬ d < c := by rw [UInt8.lt_iff_toNat_lt] at *; omega
        simp [h1, h2]
      · by_cases h2 : d < c
        · simp [h1, h2]
        · simp [h1, h2, ih q]
theorem cmpB_zeroC (a b : List UInt8) : Lib.compareBytes a b = 0 ↔ a = b := by
  induction a generalizing b with
  | nil => cases b <;> simp [Lib.compareBytes]
  | cons c r ih =>
    cases b with
    | nil => simp [Lib.compareBytes]
    | cons d q =>
      simp only [Lib.compareBytes]
      by_cases h1 : c < d
      · have hne : ¬ c = d := by intro e; rw [e, UInt8.lt_iff_toNat_lt] at h1; omega
        simp [h1, hne]
      · by_cases h2 : d < c
        · have hne : ¬ c = d := by intro e; rw [e, UInt8.lt_iff_toNat_lt] at h2; omega
          simp [h1, h2, hne]
        · have he : c = d := by rw [UInt8.lt_iff_toNat_lt] at h1 h2; exact UInt8.toNat_inj.1 (by omega)
          simp [h1, h2, ih q, he]
theorem cmpB_transC (a b c : List UInt8) (h1 : Lib.compareBytes a b ≤ 0) (h2 : Lib.compareBytes b c ≤ 0) : Lib.compareBytes a c ≤ 0 := by
  induction a generalizing b c with
  | nil => cases c <;> simp [Lib.compareBytes]
  | cons x r ih =>
    cases b with
    | nil => simp [Lib.compareBytes] at h1
    | cons y q =>
      cases c with
      | nil => simp [Lib.compareBytes] at h2
      | cons z p =>
        simp only [Lib.compareBytes] at h1 h2 ⊢
        simp only [UInt8.lt_iff_toNat_lt] at *
        by_cases a1 : x.toNat < y.toNat
        · by_cases b1 : y.toNat < z.toNat
          · rw [if_pos (by omega)]; decide
          · by_cases b2 : z.toNat < y.toNat
            · rw [if_neg b1, if_pos b2] at h2; simp at h2
            · rw [if_pos (by omega)]; decide
        · by_cases a2 : y.toNat < x.toNat
          · rw [if_neg a1, if_pos a2] at h1; simp at h1
          · rw [if_neg a1, if_neg a2] at h1
            by_cases b1 : y.toNat < z.toNat
            · rw [if_pos (by omega)]; decide
            · by_cases b2 : z.toNat < y.toNat
              · rw [if_neg b1, if_pos b2] at h2; simp at h2
              · rw [if_neg b1, if_neg b2] at h2
                rw [if_neg (by omega), if_neg (by omega)]
                exact ih q p h1 h2
theorem less_cmpC (a : List UInt8) : ∀ b, Op.bytesLess a b = decide (Lib.compareBytes a b < 0) := by
  induction a with
  | nil => intro b; cases b <;> simp [Op.bytesLess, Lib.compareBytes]
  | cons c r ih =>
    intro b
    cases b with
    | nil => simp [Op.bytesLess, Lib.compareBytes]
    | cons d q =>
      simp only [Op.bytesLess, Lib.compareBytes]
      by_cases h1 : c < d
      · simp [h1]
      · by_cases h2 : d < c
        · have hne : ¬ c = d := by intro e; rw [e, UInt8.lt_iff_toNat_lt] at h2; omega
          simp [h1, h2, hne]
        · have he : c = d := by rw [UInt8.lt_iff_toNat_lt] at h1 h2; exact UInt8.toNat_inj.1 (by omega)
          simp [h1, h2, he, ih q]
theorem less_trans {a b c : Nm} (h1 : Op.bytesLess a b = true) (h2 : Op.bytesLess b c = true) : Op.bytesLess a c = true := by
  rw [less_cmpC] at *
  have g1 : Lib.compareBytes a b < 0 := by simpa using h1
  have g2 : Lib.compareBytes b c < 0 := by simpa using h2
  have h3 := cmpB_transC a b c (by omega) (by omega)
  rcases Int.lt_or_eq_of_le h3 with h | h
  · simpa using h
  · have e := (cmpB_zeroC _ _).1 h
    subst e
    have := cmpB_antiC a b
    omega
theorem less_tri {a b : Nm} (h1 : Op.bytesLess a b = false) (h2 : ¬ a = b) : Op.bytesLess b a = true := by
  rw [less_cmpC] at *
  have g1 : ¬ Lib.compareBytes a b < 0 := by simpa using h1
  have g2 : ¬ Lib.compareBytes a b = 0 := fun e => h2 ((cmpB_zeroC _ _).1 e)
  have := cmpB_antiC a b
  have : Lib.compareBytes b a < 0 := by omega
  simpa using this
def Srt (l : List Fd) : Prop := l.Pairwise fun a b => Op.bytesLess a.nm b.nm = true
theorem lo_le (nm : Nm) (l : List Fd) : lo nm l ≤ l.length := by
  induction l with
  | nil => exact Nat.le_refl _
  | cons g r ih => unfold lo; split <;> simp <;> omega
theorem lo_spec (nm : Nm) {l : List Fd} (h : Srt l) : ∀ i g, l[i]? = some g → (i < lo nm l ↔ Op.bytesLess g.nm nm = true) := by
  induction l with
  | nil => intro i g hg; simp at hg
  | cons x r ih =>
    obtain ⟨h1, h2⟩ := List.pairwise_cons.1 h
    intro i g hg
    by_cases hx : Op.bytesLess x.nm nm = true
    · have e : lo nm (x :: r) = lo nm r + 1 := by simp [lo, hx]
      rw [e]
      cases i with
      | zero => simp at hg; subst hg; simp [hx]
      | succ i =>
        have := ih h2 i g (by simpa using hg)
        rw [← this]; omega
    · have e : lo nm (x :: r) = 0 := by simp [lo, hx]
      rw [e]
      refine ⟨fun h => absurd h (by omega), fun hl => ?_⟩
      cases i with
      | zero => simp at hg; subst hg; exact absurd hl hx
      | succ i =>
        have hm : g ∈ r := List.mem_of_getElem? (by simpa using hg)
        exact absurd (less_trans (h1 g hm) hl) hx
theorem insF_spec {all : List Fd} (h : Srt all) (f : Fd) {r : List Fd} (hr : insF all f = some r) : Srt r ∧ (∀ x, x ∈ r ↔ x ∈ all ∨ x = f) ∧ r.length ≤ all.length + 1 := by
  have hput : (∀ g, all[lo f.nm all]? = some g → ¬ g.nm = f.nm) → Srt (all.take (lo f.nm all) ++ f :: all.drop (lo f.nm all)) ∧ (∀ x, x ∈ all.take (lo f.nm all) ++ f :: all.drop (lo f.nm all) ↔ x ∈ all ∨ x = f) ∧ (all.take (lo f.nm all) ++ f :: all.drop (lo f.nm all)).length ≤ all.length + 1 := by
    intro hne
    refine ⟨?_, fun x => ?_, ?_⟩
    · have hsp := h
      unfold Srt at hsp ⊢
      rw [← List.take_append_drop (lo f.nm all) all] at hsp
      obtain ⟨p1, p2, p3⟩ := List.pairwise_append.1 hsp
      have ha : ∀ a ∈ all.take (lo f.nm all), Op.bytesLess a.nm f.nm = true := by
        intro a hm
        obtain ⟨j, hj⟩ := List.mem_iff_getElem?.1 hm
        rw [List.getElem?_take] at hj
        split at hj
        · rename_i hlt
          exact (lo_spec f.nm h j a hj).1 hlt
        · cases hj
      have hb : ∀ b ∈ all.drop (lo f.nm all), Op.bytesLess f.nm b.nm = true := by
        intro b hm
        obtain ⟨j, hj⟩ := List.mem_iff_getElem?.1 hm
        rw [List.getElem?_drop] at hj
        have h1 : ¬ Op.bytesLess b.nm f.nm = true := fun e => by
          have := (lo_spec f.nm h _ b hj).2 e; omega
        refine less_tri (by simpa using h1) (fun e => ?_)
        cases j with
        | zero => exact hne b (by simpa using hj) e
        | succ j =>
          obtain ⟨g, hg⟩ : ∃ g, all[lo f.nm all]? = some g := ⟨all[lo f.nm all]'(by have := (List.getElem?_eq_some_iff.1 hj).1; omega), by simp⟩
          have h2 : ¬ Op.bytesLess g.nm f.nm = true := fun e => by
            have := (lo_spec f.nm h _ g hg).2 e; omega
          have h3 : Op.bytesLess g.nm b.nm = true := by
            have hlt := (List.getElem?_eq_some_iff.1 hj).1
            have := List.pairwise_iff_getElem.1 h (lo f.nm all) (lo f.nm all + (j + 1)) (by omega) hlt (by omega)
            rw [(List.getElem?_eq_some_iff.1 hg).2, (List.getElem?_eq_some_iff.1 hj).2] at this
            exact this
          rw [e] at h3
          exact h2 h3
      refine List.pairwise_append.2 ⟨p1, List.pairwise_cons.2 ⟨hb, p2⟩, fun a hm b hmb => ?_⟩
      rcases List.mem_cons.1 hmb with rfl | hmb
      · exact ha a hm
      · exact p3 a hm b hmb
    · have : x ∈ all ↔ x ∈ all.take (lo f.nm all) ∨ x ∈ all.drop (lo f.nm all) := by
        rw [← List.mem_append, List.take_append_drop]
      rw [this]; simp only [List.mem_append, List.mem_cons]
      constructor
      · rintro (h | h | h)
        · exact .inl (.inl h)
        · exact .inr h
        · exact .inl (.inr h)
      · rintro ((h | h) | h)
        · exact .inl h
        · exact .inr (.inr h)
        · exact .inr (.inl h)
    · simp; omega
  unfold insF at hr
  split at hr
  · rename_i g hg
    split at hr
    · split at hr
      · rename_i h1 h2
        have e := (feq_iff g f).1 h2
        obtain rfl := Option.some.inj hr
        refine ⟨h, fun x => ⟨fun hx => .inl hx, fun hx => ?_⟩, by omega⟩
        rcases hx with hx | rfl
        · exact hx
        · rw [← e]; exact List.mem_of_getElem? hg
      · cases hr
    · rename_i h1
      obtain rfl := Option.some.inj hr
      exact hput (fun g' hg' => by rw [hg] at hg'; obtain rfl := Option.some.inj hg'; simpa using h1)
  · rename_i hg
    obtain rfl := Option.some.inj hr
    exact hput (fun g' hg' => by rw [hg] at hg'; cases hg')
theorem srt_nil : Srt [] := List.Pairwise.nil
def Small (L : List Kd) : Prop := ∀ k ∈ L, k.of.length ≤ 4 ∧ k.fs.length ≤ 8
def SzK (L : List Kd) : Prop := ∀ k ∈ L, k.nm.length ≤ maxLen ∧ ∀ f ∈ k.fs, f.nm.length ≤ maxLen
theorem idxK_none {nm : Nm} {L : List Kd} {k : Nat} (h : idxK nm L k = -1) : ∀ x ∈ L, x.nm ≠ nm := by
  induction L generalizing k with
  | nil => intro x hx; simp at hx
  | cons p r ih =>
    intro x hx
    by_cases hp : (p.nm == nm) = true
    · unfold idxK at h; rw [if_pos hp] at h; omega
    · have e : idxK nm (p :: r) k = idxK nm r (k + 1) := by
        conv => lhs; unfold idxK
        rw [if_neg hp]
      rw [e] at h
      rcases List.mem_cons.1 hx with rfl | hx
      · simpa using hp
      · exact ih h x hx
theorem idxK_has {nm : Nm} {L : List Kd} (h : ¬ idxK nm L 0 = -1) : ∃ (j : Nat) (q : Kd), idxK nm L 0 = (j : Int) ∧ L[j]? = some q ∧ q.nm = nm := by
  obtain ⟨j, q, h1, h2, h3⟩ := (idxK_spec nm L 0).resolve_left h
  exact ⟨j, q, by simpa using h1, h2, h3⟩
theorem oChk_zero (A : List Kd) (of : List Nm) : ∀ seen, oChk A seen of = 0 → ∀ n ∈ of, ∃ x ∈ A, x.nm = n := by
  induction of with
  | nil => intro seen h n hn; simp at hn
  | cons m r ih =>
    intro seen h n hn
    unfold oChk at h
    split at h
    · exact absurd h (by decide)
    · rename_i h1
      split at h
      · exact absurd h (by decide)
      · rcases List.mem_cons.1 hn with rfl | hn
        · obtain ⟨j, q, _, h2, h3⟩ := idxK_has h1
          exact ⟨q, List.mem_of_getElem? h2, h3⟩
        · exact ih _ h n hn
theorem kErr_zero {A : List Kd} {k : Kd} (h : kErr A k = 0) : nErr k.nm = 0 ∧ idxK k.nm A 0 = -1 ∧ (k.of.length ≤ 4 ∧ k.fs.length ≤ 8) ∧ oChk A [] k.of = 0 ∧ fChk none k.fs = 0 ∧ ∃ l, fieldsOf (kinOf (A ++ [k])) = some l ∧ l.length ≤ 8 := by
  unfold kErr at h
  split at h
  · rename_i h1
    split at h
    · rename_i h2
      split at h
      · exact absurd h (by decide)
      · rename_i h3
        split at h
        · rename_i h4
          split at h
          · rename_i h5
            refine ⟨h1, h2, by omega, h4, h5, ?_⟩
            cases e : fieldsOf (kinOf (A ++ [k])) with
            | none => rw [e] at h; exact absurd h (by decide)
            | some l =>
              rw [e] at h
              refine ⟨l, rfl, ?_⟩
              unfold aErr at h
              simp only at h
              split at h
              · exact absurd h (by decide)
              · omega
          · rename_i h5; exact absurd h h5
        · rename_i h4; exact absurd h h4
    · exact absurd h (by decide)
  · rename_i h1; exact absurd h h1
theorem kErr_right {A : List Kd} {k : Kd} (hA : Right A) (h : kErr A k = 0) : Right (A ++ [k]) := by
  obtain ⟨h1, h2, h3, h4, h5, _⟩ := kErr_zero h
  exact right_snoc.2 ⟨idxK_none h2, oChk_zero A k.of [] h4, hA⟩
def Good (L : List Kd) : Prop := ∀ i k, L[i]? = some k → kErr (L.take i) k = 0
theorem ksGo_good (L : List Kd) : ∀ A, (ksGo A L).2 = 0 ↔ ∀ i k, L[i]? = some k → kErr (A ++ L.take i) k = 0 := by
  induction L with
  | nil => intro A; simp [ksGo]
  | cons x r ih =>
    intro A
    unfold ksGo
    split
    · rename_i h
      rw [ih]
      constructor
      · intro h1 i k hk
        cases i with
        | zero => simp at hk; subst hk; simpa using h
        | succ i => have := h1 i k (by simpa using hk); simpa using this
      · intro h1 i k hk
        have := h1 (i + 1) k (by simpa using hk)
        simpa using this
    · rename_i h
      constructor
      · intro h1; exact absurd h1 h
      · intro h1; exact absurd (by simpa using h1 0 x (by simp)) h
theorem ksErr_good {L : List Kd} : (ksErr L).2 = 0 ↔ Good L ∧ L.length ≤ 12 := by
  unfold ksErr
  split
  · rename_i h
    constructor
    · intro h1; exact absurd h1 (by decide)
    · intro h1; omega
  · rename_i h
    rw [ksGo_good]
    constructor
    · intro h1; exact ⟨fun i k hk => by simpa using h1 i k hk, by omega⟩
    · rintro ⟨h1, _⟩ i k hk; simpa using h1 i k hk
theorem Good.take {L : List Kd} (h : Good L) (i : Nat) : Good (L.take i) := fun j k hk => by
  rw [List.getElem?_take] at hk
  split at hk
  · rename_i hlt
    have := h j k hk
    rw [List.take_take]
    rwa [Nat.min_eq_left (by omega)]
  · cases hk
theorem Good.right {L : List Kd} (h : Good L) : Right L := by
  revert h
  refine snoc_ind (P := fun L => Good L → Right L) ?_ ?_ L
  · intro _; trivial
  · intro A k ih h
    have h1 : Good A := by
      have := h.take A.length
      simpa using this
    have h2 := h A.length k (by simp)
    simp at h2
    exact kErr_right (ih h1) h2
theorem Good.small {L : List Kd} (h : Good L) : Small L := fun k hk => by
  obtain ⟨i, hi⟩ := List.mem_iff_getElem?.1 hk
  exact (kErr_zero (h i k hi)).2.2.1
theorem Good.fields {L : List Kd} (h : Good L) {i : Nat} {k : Kd} (hk : L[i]? = some k) : ∃ l, fieldsOf (kinOf (L.take (i + 1))) = some l ∧ l.length ≤ 8 := by
  obtain ⟨_, _, _, _, _, l, h1, h2⟩ := kErr_zero (h i k hk)
  exact ⟨l, by rw [takeK hk]; exact h1, h2⟩
theorem back_sub (r : List Kd) : ∀ ns, (back r ns).Sublist r := by
  induction r with
  | nil => intro ns; exact List.Sublist.slnil
  | cons k r ih =>
    intro ns
    unfold back
    split
    · exact (ih _).cons_cons _
    · exact (ih _).cons _
theorem kinOf_sub (L : List Kd) : (∀ k ∈ kinOf L, k ∈ L) ∧ (kinOf L).length ≤ L.length := by
  unfold kinOf
  split
  · simp
  · rename_i k hk
    have h := back_sub L.reverse [k.nm]
    exact ⟨fun x hx => by simpa using h.subset (by simpa using hx), by simpa using h.length_le⟩
end Go.Proofs.YtahamkajkkkjdaaGreatDoor
namespace Go.Proofs.YtahamkajkkkjdaaGreatDoor
open Go.RowKit Go.Lib
set_option linter.unusedVariables false
set_option linter.unusedSimpArgs false
theorem run_copy_rowN {P : Program} (w : World) (dT sT ty elem : TypeId) (size g o dLen dCap : Nat) (a : Addr) (sLen sCap : Nat) (cur : Array Value) (t : TypeId) (cs : List Value) (k : Nat)
    (hu : P.underlying dT = some (.slice elem)) (hs : (P.info? elem).map (·.size) = some size)
    (hg : w.heap[g]? = some (.cells cur t (0, 0))) (hk : Nat.min sLen dLen = k) (hn : cs.length = k * size)
    (hsrc : ∀ j v, cs[j]? = some v → w.cell? (a.add j) = some v) (hfit : o + cs.length ≤ cur.size) (h1 : ∀ v ∈ cs, v.oneCell' = true) :
    (Builtin.copy_ #[dT, sT] ty #[.slice (some ⟨g, o, none⟩) dLen dCap, .slice (some a) sLen sCap]).run P w =
      .ok (goInt k) (w.setRow g (cur.toList.take o ++ cs ++ cur.toList.drop (o + cs.length)).toArray) := by
  have hl := run_loadCells_list (P := P) w a cs hsrc
  have hst := run_storeCells_at P g o t cs 0 cur w hg (by simpa using hfit) h1
  cases hq : P.info? elem with
  | none => simp [hq] at hs
  | some i =>
    have hi : i.size = size := by simpa [hq] using hs
    simp [Builtin.copy_, run_underlying hu, Builtin.lenOf, Builtin.firstCells, sizeOf, typeInfo, hq, hi, hk, ← hn, hl, hst]
theorem wp_copy_runN {P : Program} (w : World) {o : Oper} {a : Act} {K : Act → World → Prop} {Q : Exit → Act → World → Prop} (d s : Operand) (t t' : TypeId)
    (ho : o.op = .call { callee := .builtin .copy, args := #[d, s], argTypes := #[t, t'] }) (v u : Value) (hd : a.eval d = v) (hs : a.eval s = u) {v' : Value} {w' : World}
    (hr : (Builtin.copy_ #[t, t'] o.type #[v, u]).run P w = .ok v' w') (h : K (a.put o.dst v') w') : o.wp P a w K Q := by
  unfold Oper.wp execOp
  simp only [ho, resolve, invoke, builtin, Sem.run_bind, Sem.run_pure, Result.andThen_ok, List.map_toArray, List.map_cons, List.map_nil, hd, hs, hr]
  exact h
theorem wpList_copy_runN {P : Program} (w : World) {ops : Array Oper} {rest : List Oper} {o : Oper} {a : Act} {Q : Exit → Act → World → Prop} (hgd : o.guard = none) (d s : Operand) (t t' : TypeId)
    (ho : o.op = .call { callee := .builtin .copy, args := #[d, s], argTypes := #[t, t'] }) (v u : Value) (hd : a.eval d = v) (hs : a.eval s = u) {v' : Value} {w' : World}
    (hr : (Builtin.copy_ #[t, t'] o.type #[v, u]).run P w = .ok v' w') (h : wpList P ops Q rest (a.put o.dst v') w') : wpList P ops Q (o :: rest) a w :=
  wpList_plain hgd fun _ hK => wp_copy_runN w d s t t' ho v u hd hs hr (hK _ _ h)
theorem step_copy_runN {P : Program} {ops : Array Oper} {o : Oper} {a : Act} {w : World} {K : Act → World → Prop} {Q : Exit → Act → World → Prop} {E : Prop}
    (hg : o.guard = none) (d x : Operand) (dT sT : TypeId) (hop : o.op = Op.call { callee := Callee.builtin Builtin.copy, args := #[d, x], argTypes := #[dT, sT] })
    (v u : Value) (hd : a.eval d = v) (hx : a.eval x = u) {v' : Value} {w' : World} (hr : (Builtin.copy_ #[dT, sT] o.type #[v, u]).run P w = .ok v' w') (hK : K (a.put o.dst v') w') :
    if Region.wanted o (yielded ops a.tmps) = true then Oper.wp P o a w K Q else E := by
  have hw : Region.wanted o (yielded ops a.tmps) = true := by simp [Region.wanted, hg]
  rw [if_pos hw]
  exact wp_copy_runN w d x dT sT hop v u hd hx hr hK
def lay (l : List Value) (o : Nat) (cs : List Value) : List Value := l.take o ++ cs ++ l.drop (o + cs.length)
theorem lay_len {l : List Value} {o : Nat} {cs : List Value} (h : o + cs.length ≤ l.length) : (lay l o cs).length = l.length := by simp [lay]; omega
theorem lay_room (l xs ys zs new : List Value) (hl : l = xs ++ ys ++ zs) (hz : new.length ≤ zs.length) :
    (lay (lay l (xs.length + new.length) ys) xs.length new).take (xs.length + new.length + ys.length) = xs ++ new ++ ys := by
  subst hl
  have e1 : (lay (xs ++ ys ++ zs) (xs.length + new.length) ys) = (xs ++ (ys ++ zs)).take (xs.length + new.length) ++ (ys ++ (xs ++ (ys ++ zs)).drop (xs.length + new.length + ys.length)) := by simp [lay]
  obtain ⟨u, hu, hul⟩ : ∃ u, (xs ++ (ys ++ zs)).take (xs.length + new.length) = xs ++ u ∧ u.length = new.length := ⟨(ys ++ zs).take new.length, by rw [List.take_append, List.take_of_length_le (by omega)]; congr 2; omega, by simp; omega⟩
  obtain ⟨t, ht⟩ : ∃ t, (xs ++ (ys ++ zs)).drop (xs.length + new.length + ys.length) = t := ⟨_, rfl⟩
  rw [e1, hu, ht]
  have e3 : lay (xs ++ u ++ (ys ++ t)) xs.length new = (xs ++ new ++ ys) ++ t := by
    unfold lay
    have h1 : (xs ++ u ++ (ys ++ t)).take xs.length = xs := by rw [show xs ++ u ++ (ys ++ t) = xs ++ (u ++ (ys ++ t)) by simp]; exact List.take_left
    have h2 : (xs ++ u ++ (ys ++ t)).drop (xs.length + new.length) = ys ++ t := List.drop_left' (by simp; omega)
    rw [h1, h2]; simp
  rw [e3]
  exact List.take_left' (by simp; omega)
theorem lay_grow (xs ys new zs : List Value) (hz : zs.length = new.length + ys.length) (t : List Value) :
    (lay (lay (xs ++ zs ++ t) xs.length new) (xs.length + new.length) ys).take (xs.length + new.length + ys.length) = xs ++ new ++ ys := by
  have e1 : lay (xs ++ zs ++ t) xs.length new = (xs ++ new) ++ (zs ++ t).drop new.length := by
    unfold lay
    rw [show xs ++ zs ++ t = xs ++ (zs ++ t) by simp, List.take_left, List.drop_append, List.drop_of_length_le (by omega)]
    simp
  rw [e1]
  unfold lay
  rw [show (xs ++ new ++ (zs ++ t).drop new.length).take (xs.length + new.length) = xs ++ new from List.take_left' (by simp)]
  exact List.take_left' (by simp; omega)
end Go.Proofs.YtahamkajkkkjdaaGreatDoor
