/-
  The keys of the index's maps.
-/
import Derived.Test.YtjnjbajnmclmjaaGreatDoorM25
import Derived.Test.YtjnjbajnmclmjaaGreatDoorM17
namespace Go.Proofs.YtjnjbajnmclmjaaGreatDoor
open Go.RowKit
open Go.Maps (Keyed)
set_option linter.unusedVariables false
set_option linter.unusedSimpArgs false

/-- A key of the index: the kind, the field, the value's type, number and text. -/
abbrev KeyJ := ByteArray × ByteArray × Int × Int × ByteArray
/-- An end: the bond, the node, which way. -/
abbrev EndJ := ByteArray × Int × Bool
def encJ (x : KeyJ) : Value := .agg #[.string x.1, .string x.2.1, .int .i64 x.2.2.1, .int .i64 x.2.2.2.1, .string x.2.2.2.2]
def encD (x : EndJ) : Value := .agg #[.string x.1, .int .i64 x.2.1, .bool x.2.2]
theorem encJ_inj : ∀ x y, encJ x = encJ y → x = y := fun x y h => by
  obtain ⟨a, b, c, d, e⟩ := x
  obtain ⟨a', b', c', d', e'⟩ := y
  simpa [encJ] using h
theorem encD_inj : ∀ x y, encD x = encD y → x = y := fun x y h => by
  obtain ⟨a, b, c⟩ := x
  obtain ⟨a', b', c'⟩ := y
  simpa [encD] using h
theorem keyedJ : Keyed Tryz.prog 96 := Keyed.of_law (deep_law_laid lay0 (m := 4) (by omega) (of_decide_eq_true (by kernel_rfl)) (by kernel_rfl) (by rw [Tryz.underlying96]))
theorem keyedD : Keyed Tryz.prog 125 := Keyed.of_law (deep_law_laid lay0 (m := 4) (by omega) (of_decide_eq_true (by kernel_rfl)) (by kernel_rfl) (by rw [Tryz.underlying125]))
theorem kt96 : Tryz.prog.keyType 96 = true := by kernel_rfl
theorem kt125 : Tryz.prog.keyType 125 = true := by kernel_rfl
theorem co96 : Tryz.prog.cellsOf 96 = 5 := by kernel_rfl
theorem co125 : Tryz.prog.cellsOf 125 = 3 := by kernel_rfl
theorem co4 : Tryz.prog.cellsOf 4 = 1 := by kernel_rfl
theorem klB (d : Nat) (b : Bool) : Tryz.prog.keyLits (d + 1) 4 [.bool b] = some [.bool b] := by
  simp only [Program.keyLits, Tryz.underlying4]
theorem kl125 (d : Nat) {s : ByteArray} {n : Int} (b : Bool) (h1 : s.size ≤ maxLen) (h2 : in64 n) : Tryz.prog.keyLits (d + 2) 125 [.string s, .int .i64 n, .bool b] = some [.string s.data.toList, .int .i64 n, .bool b] := by
  conv => lhs; unfold Program.keyLits
  rw [Tryz.underlying125]
  simp [co125, co9, co3, co4, klS _ h1, klI _ h2, klB]
theorem kl96 (d : Nat) {k f s : ByteArray} {t n : Int} (hk : k.size ≤ maxLen) (h0 : f.size ≤ maxLen) (h1 : in64 t) (h2 : in64 n) (h3 : s.size ≤ maxLen) : Tryz.prog.keyLits (d + 3) 96 [.string k, .string f, .int .i64 t, .int .i64 n, .string s] = some [.string k.data.toList, .string f.data.toList, .int .i64 t, .int .i64 n, .string s.data.toList] := by
  conv => lhs; unfold Program.keyLits
  rw [Tryz.underlying96]
  simp [co96, co48, co9, klS _ h0, klS _ hk, kl48 _ h1 h2 h3]
theorem keyD {x : EndJ} (h1 : x.1.size ≤ maxLen) (h2 : in64 x.2.1) : ∃ l, keyOf Tryz.prog 125 (encD x) = some l := by
  have hf : (encD x).formed Tryz.prog 125 = true := by simp [encD, Value.formed, Tryz.underlying125, co125]
  unfold keyOf
  rw [Tryz.underlying125, kt125, hf, tys]
  have := kl125 284 x.2.2 h1 h2
  simp only [Bool.and_self, if_true]
  rw [show (encD x).cells.toList = [.string x.1, .int .i64 x.2.1, .bool x.2.2] from rfl, show (286 : Nat) = 284 + 2 from rfl, this]
  exact ⟨_, rfl⟩
theorem keyJ {x : KeyJ} (hk : x.1.size ≤ maxLen) (h1 : x.2.1.size ≤ maxLen) (h2 : in64 x.2.2.1) (h3 : in64 x.2.2.2.1) (h4 : x.2.2.2.2.size ≤ maxLen) : ∃ l, keyOf Tryz.prog 96 (encJ x) = some l := by
  have hf : (encJ x).formed Tryz.prog 96 = true := by simp [encJ, Value.formed, Tryz.underlying96, co96]
  unfold keyOf
  rw [Tryz.underlying96, kt96, hf, tys]
  have := kl96 283 hk h1 h2 h3 h4
  simp only [Bool.and_self, if_true]
  rw [show (encJ x).cells.toList = [.string x.1, .string x.2.1, .int .i64 x.2.2.1, .int .i64 x.2.2.2.1, .string x.2.2.2.2] from rfl, show (286 : Nat) = 283 + 3 from rfl, this]
  exact ⟨_, rfl⟩
theorem zero60 (w : World) : (zeroValue 60).run Tryz.prog w = .ok (.slice none 0 0) w := by kernel_rfl
theorem zero90 (w : World) : (zeroValue 90).run Tryz.prog w = .ok (.agg #[.slice none 0 0, .slice none 0 0]) w := by kernel_rfl
end Go.Proofs.YtjnjbajnmclmjaaGreatDoor

/-
  The walks of Index.Kind, Key and Ends.
-/
namespace Go.Proofs.YtjnjbajnmclmjaaGreatDoor
open Go.RowKit
open Go.Maps (Keyed)
set_option linter.unusedVariables false
set_option linter.unusedSimpArgs false

/-- What a table has of a key: a row of ids, wherever it lies. -/
def RowR (w : World) (o : Option Value) (h : Option (List Int)) : Prop := (o = none ∧ h = none) ∨ ∃ v L, o = some v ∧ h = some L ∧ L.length ≤ 1000000 ∧ HasC w v L.length (cellsI L)
def MapR {κ : Type} (w : World) (k : TypeId) (enc : κ → Value) (b : Nat) (H : κ → Option (List Int)) : Prop := ∃ F, OwnM w Tryz.prog k enc b F ∧ ∀ x, RowR w (F x) (H x)
theorem MapR.on {κ : Type} {w w' : World} {k : TypeId} {enc : κ → Value} {b : Nat} {H : κ → Option (List Int)} (h : MapR w k enc b H) (hB : Below w.heap.size w w') : MapR w' k enc b H := by
  obtain ⟨F, h1, h2⟩ := h
  refine ⟨F, h1.of_block (hB.block b h1.lt), fun x => ?_⟩
  rcases h2 x with h | ⟨v, L, e1, e2, e3, hh⟩
  · exact .inl h
  · exact .inr ⟨v, L, e1, e2, e3, hh.on hB⟩
theorem MapR.look {κ : Type} {w : World} {k : TypeId} {enc : κ → Value} {b : Nat} {H : κ → Option (List Int)} (h : MapR w k enc b H) (K : Keyed Tryz.prog k) (hinj : ∀ x y, enc x = enc y → x = y) {t : TypeId} (ht : Tryz.prog.underlying t = some (.map k 60)) {x : κ} {l : Lit} (hk : keyOf Tryz.prog k (enc x) = some l) :
    ∃ v, HasC w v ((H x).getD []).length (cellsI ((H x).getD [])) ∧ ((H x).getD []).length ≤ 1000000 ∧ (Instr.lookup t (.map (some b)) (enc x) false).run Tryz.prog w = .ok v w := by
  obtain ⟨F, h1, h2⟩ := h
  have hl := h1.look K hinj ht (zero60 w) hk false
  rcases h2 x with ⟨e1, e2⟩ | ⟨v, L, e1, e2, e3, hh⟩
  · rw [e1] at hl
    rw [e2]
    exact ⟨_, ⟨none, 0, rfl, .inl ⟨rfl, rfl⟩⟩, by simp, hl⟩
  · rw [e1] at hl
    rw [e2]
    exact ⟨v, hh, e3, hl⟩
theorem MapHp.look {w : World} {base b : Nat} {H : ByteArray → Option Hp} (h : MapHp w base b H) {x : ByteArray} {l : Lit} (hk : keyOf Tryz.prog 9 (encS x) = some l) :
    ∃ vk vs, (∀ p, H x = some p → OwnHp w base (.agg #[vk, vs]) p) ∧ (Instr.lookup 78 (.map (some b)) (encS x) true).run Tryz.prog w = .ok (.tuple #[.agg #[vk, vs], .bool (H x).isSome]) w ∧ (Instr.lookup 78 (.map (some b)) (encS x) false).run Tryz.prog w = .ok (.agg #[vk, vs]) w ∧ (H x = none → vk = .slice none 0 0 ∧ vs = .slice none 0 0) := by
  obtain ⟨F, h1, h2⟩ := h
  have hl := h1.look keyedS encS_inj Tryz.underlying78 (zero90 w) hk true
  have hm := h1.look keyedS encS_inj Tryz.underlying78 (zero90 w) hk false
  rcases h2 x with ⟨e1, e2⟩ | ⟨v, p, e1, e2, hh⟩
  · rw [e1] at hl hm
    rw [e2]
    exact ⟨.slice none 0 0, .slice none 0 0, fun p hp => (by cases hp), hl, hm, fun _ => ⟨rfl, rfl⟩⟩
  · rw [e1] at hl hm
    rw [e2]
    obtain ⟨vk, vs, rfl, o1, o2⟩ := hh
    exact ⟨vk, vs, fun q hq => (by cases hq; exact ⟨vk, vs, rfl, o1, o2⟩), hl, hm, fun h => (by cases h)⟩
set_option maxHeartbeats 4000000 in
set_option maxRecDepth 100000 in
theorem ikind_no {b : Nat} {vk vb vn vt : Value} {s m1 m2 m3 base : Nat} {w : World} {H : ByteArray → Option Hp} (hx : IxC w b vk vb vn vt s m1 m2 m3) (hM : MapHp w base s H) {nm : ByteArray} (hk : nm.size ≤ maxLen) (hn : H nm = none) :
    Calls Tryz.prog 10 #[.pointer (some ⟨b, 0, none⟩), .string nm] w fun e w' => e = .returned (.tuple #[.slice none 0 0, .iface 92 (.int .i64 5)]) ∧ Below w.heap.size w w' := by
  obtain ⟨l, hl⟩ := keyS hk
  obtain ⟨v1, v2, hv, h1, _, h0⟩ := hM.look hl
  obtain ⟨rfl, rfl⟩ := h0 hn
  rw [hn] at h1
  unfold encS at h1
  have x2 : w.cell? ⟨b, 2, none⟩ = some (.map (some s)) := cell_at hx rfl
  have hb := (Array.getElem?_eq_some_iff.1 hx).1
  clear hv h0 hM hl hx
  go_enter Tryz.func10, Tryz.ntmps10
  go_wp2
  go_ret2
  exact ⟨rfl, b_alloc (Below.refl _ _) _⟩
end Go.Proofs.YtjnjbajnmclmjaaGreatDoor

/-
  The walks of Index.Kind, where the kind is there, and of Index.Ends.
-/
namespace Go.Proofs.YtjnjbajnmclmjaaGreatDoor
open Go.RowKit
open Go.Maps (Keyed)
set_option linter.unusedVariables false
set_option linter.unusedSimpArgs false

set_option maxHeartbeats 4000000 in
set_option maxRecDepth 100000 in
theorem ikind_yes {b : Nat} {vk vb vn vt : Value} {s m1 m2 m3 base : Nat} {w : World} {H : ByteArray → Option Hp} {R : ByteArray → Option (List Int)} (hx : IxC w b vk vb vn vt s m1 m2 m3) (hM : MapHp w base s H) (hR : MapR w 9 encS m1 R) {nm : ByteArray} (hk : nm.size ≤ maxLen) {p : Hp} (hn : H nm = some p) :
    Calls Tryz.prog 10 #[.pointer (some ⟨b, 0, none⟩), .string nm] w fun e w' => ∃ u, e = .returned (.tuple #[u, .nilIface]) ∧ w'.ownsRow w.heap.size 3 1 u ((R nm).getD []).length (cellsI ((R nm).getD [])) ∧ Below w.heap.size w w' := by
  obtain ⟨l, hl⟩ := keyS hk
  obtain ⟨v1, v2, hv, h1, _, _⟩ := hM.look hl
  obtain ⟨q1, q2, e, o1, o2⟩ := hv p hn
  injection e with e
  obtain ⟨rfl, rfl⟩ : v1 = q1 ∧ v2 = q2 := by simpa using e
  obtain ⟨a1, c1, rfl⟩ := own_slice o1
  obtain ⟨a2, c2, rfl⟩ := own_slice o2
  rw [hn] at h1
  have hB1 : Below w.heap.size w (w.alloc (.cells #[.slice a1 p.kn.length c1, .slice a2 p.ks.length c2] 90)) := b_alloc (Below.refl _ _) _
  obtain ⟨v, hc, hlen, h2⟩ := (hR.on hB1).look keyedS encS_inj Tryz.underlying80 hl
  have cc := cloneI_any hc hlen
  unfold encS at h1 h2
  have x2 : w.cell? ⟨b, 2, none⟩ = some (.map (some s)) := cell_at hx rfl
  have x5 : (w.alloc (.cells #[.slice a1 p.kn.length c1, .slice a2 p.ks.length c2] 90)).cell? ⟨b, 5, none⟩ = some (.map (some m1)) := cell_at (hx.on hB1) rfl
  have x5' : w.cell? ⟨b, 5, none⟩ = some (.map (some m1)) := cell_at hx rfl
  have hb := (Array.getElem?_eq_some_iff.1 hx).1
  have hne : ¬ b = w.heap.size := by omega
  have HB : Hid (Below w.heap.size w (w.alloc (.cells #[.slice a1 p.kn.length c1, .slice a2 p.ks.length c2] 90))) := hB1
  obtain ⟨av, cv, rfl, _⟩ := hc
  obtain ⟨n1, hn1⟩ : ∃ n1, n1 = p.kn.length := ⟨_, rfl⟩
  obtain ⟨n2, hn2⟩ : ∃ n2, n2 = p.ks.length := ⟨_, rfl⟩
  rw [← hn1, ← hn2] at *
  generalize (R nm).getD [] = Q at cc ⊢ h2
  clear hv e o1 o2 hM hl hx hR hB1 hn hlen
  go_enter Tryz.func10, Tryz.ntmps10
  go_wp2_with (first | (go_at_call 28; refine cc.mono ?_; rintro e W2 ⟨u, rfl, ho, hB2⟩))
  go_ret2
  exact ⟨u, rfl, own_base ho (by simp), on1K HB.out hB2 (Nat.le_refl _)⟩
end Go.Proofs.YtjnjbajnmclmjaaGreatDoor

/-
  The walk of Index.Ends.
-/
namespace Go.Proofs.YtjnjbajnmclmjaaGreatDoor
open Go.RowKit
open Go.Maps (Keyed)
set_option linter.unusedVariables false
set_option linter.unusedSimpArgs false

set_option maxHeartbeats 4000000 in
set_option maxRecDepth 100000 in
theorem iends_any {b : Nat} {vk vb vn vt : Value} {s m1 m2 m3 : Nat} {w : World} {N : List Nd} {B : List Bd} {R : EndJ → Option (List Int)} (hx : IxC w b vk vb vn vt s m1 m2 m3) (hN : IsN w vn N) (hs : SrtN N) (hn : N.length ≤ 96) (hB : IsB w vb B) (hnB : B.length ≤ 12) (hR : MapR w 125 encD m3 R) {bd : Nm} {id : Int} (hid : in64 id) (back : Bool) (hk : (bs bd).size ≤ maxLen) :
    Calls Tryz.prog 19 #[.pointer (some ⟨b, 0, none⟩), .int .i64 id, .string (bs bd), .bool back] w fun e w' => ((fndN id N && decide (0 ≤ idxB bd B 0)) = false → e = .returned (.tuple #[.slice none 0 0, .iface 92 (.int .i64 5)])) ∧ ((fndN id N && decide (0 ≤ idxB bd B 0)) = true → ∃ u, e = .returned (.tuple #[u, .nilIface]) ∧ w'.ownsRow w.heap.size 3 1 u ((R (bs bd, id, back)).getD []).length (cellsI ((R (bs bd, id, back)).getD []))) ∧ Below w.heap.size w w' := by
  have hb := (Array.getElem?_eq_some_iff.1 hx).1
  have c1 := hasNode_any (cell_at hx rfl) hN hs hn id
  have c2 := fun W (h : Below w.heap.size w W) => hasBond_any (b := b) (Nat.lt_of_lt_of_le hb h.size) (cell_at (hx.on h) rfl) (hB.on h) hnB bd
  obtain ⟨l, hl⟩ := keyD (x := (bs bd, id, back)) hk hid
  have c3 := fun W (h : Below w.heap.size w W) => (hR.on h).look keyedD encD_inj Tryz.underlying82 hl
  have x7 := fun W (h : Below w.heap.size w W) => cell_at (i := 7) (hx.on h) rfl
  have H3 := Lib.hid c3
  have H2 := Lib.hid c2
  have H7 := Lib.hid x7
  generalize fndN id N = f1 at c1 ⊢
  generalize decide (0 ≤ idxB bd B 0) = f2 at H2 ⊢
  clear hx hN hs hn hB hnB hR hl c2 c3 x7
  cases f1
  · go_enter Tryz.func19, Tryz.ntmps19
    go_wp2_with (first | (go_at_call 38; refine c1.mono ?_; rintro e W1 ⟨rfl, hB1⟩))
    go_ret2
    exact ⟨fun _ => rfl, fun h => (by cases h), hB1⟩
  · cases f2
    · go_enter Tryz.func19, Tryz.ntmps19
      go_wp2_with (first | (go_at_call 38; refine c1.mono ?_; rintro e W1 ⟨rfl, hB1⟩) | (go_at_call 39; refine (H2.out W1 hB1).mono ?_; rintro e W2 ⟨rfl, hB2⟩))
      go_ret2
      exact ⟨fun _ => rfl, fun h => (by cases h), on1K hB1 hB2 (Nat.le_refl _)⟩
    · go_enter Tryz.func19, Tryz.ntmps19
      go_wp2_with (first | (go_at_call 38; refine c1.mono ?_; rintro e W1 ⟨rfl, hB1⟩) | (go_at_call 39; refine (H2.out W1 hB1).mono ?_; rintro e W2 ⟨rfl, hB2⟩; refine Hid.out ?_))
      refine Lib.hid ?_
      have hB12 := on1K hB1 hB2 (Nat.le_refl _)
      obtain ⟨v, hc, hlen, h3⟩ := H3.out W2 hB12
      have cc := cloneI_any hc hlen
      have y7 := H7.out W2 hB12
      have HB := Lib.hid hB12
      obtain ⟨av, cv, rfl, _⟩ := hc
      obtain ⟨Q, hQ⟩ : ∃ Q, Q = (R (bs bd, id, back)).getD [] := ⟨_, rfl⟩
      have HQ := Lib.hid hQ
      rw [← hQ] at cc h3
      clear hQ
      unfold encD at h3
      simp only at h3
      clear hB1 hB2 hB12
      go_wp2_with (first | (go_at_call 28; refine cc.mono ?_; rintro e W3 ⟨u, rfl, ho, hB3⟩))
      go_ret2
      exact ⟨fun h => (by cases h), fun _ => ⟨u, rfl, (by rw [← HQ.out]; exact own_base ho HB.out.size)⟩, on1K HB.out hB3 (Nat.le_refl _)⟩
end Go.Proofs.YtjnjbajnmclmjaaGreatDoor

/-
  The walk of Index.Key.
-/
namespace Go.Proofs.YtjnjbajnmclmjaaGreatDoor
open Go.RowKit
open Go.Maps (Keyed)
set_option linter.unusedVariables false
set_option linter.unusedSimpArgs false

def keyB : Option Int → Int × Int
  | none => (0, 5)
  | some id => (id, 0)
/-- What Key answers. -/
def keyA (H : ByteArray → Option Hp) (G : KeyJ → Option Int) (nm : ByteArray) (fd : Nm) (t n : Int) (st : ByteArray) : Int × Int :=
  match H nm with
  | none => (0, 5)
  | some p => if hasN p.ks fd then keyB (G (nm, bs fd, t, n, st)) else (0, 3)
set_option maxHeartbeats 4000000 in
set_option maxRecDepth 100000 in
theorem ikey_any {b : Nat} {vk vb vn vt : Value} {s m1 m2 m3 base : Nat} {w : World} {H : ByteArray → Option Hp} {G : KeyJ → Option Int} (hx : IxC w b vk vb vn vt s m1 m2 m3) (hM : MapHp w base s H) (hG : OwnM w Tryz.prog 96 encJ m2 (fun x => (G x).map (.int .i64))) (hks : ∀ x p, H x = some p → p.ks.length ≤ 1000) {nm st : ByteArray} {fd : Nm} {t n : Int} (hk : nm.size ≤ maxLen) (hf : (bs fd).size ≤ maxLen) (hst : st.size ≤ maxLen) (ht : in64 t) (hn : in64 n) :
    Calls Tryz.prog 6 #[.pointer (some ⟨b, 0, none⟩), .string nm, .string (bs fd), .agg #[.int .i64 t, .int .i64 n, .string st]] w fun e w' => e = .returned (.tuple #[.int .i64 (keyA H G nm fd t n st).1, errV (keyA H G nm fd t n st).2]) ∧ Below w.heap.size w w' := by
  have hb := (Array.getElem?_eq_some_iff.1 hx).1
  have hne : ¬ b = w.heap.size := by omega
  obtain ⟨W0, hW0⟩ : ∃ W0, W0 = w.alloc (.cells #[.int .i64 t, .int .i64 n, .string st] 38) := ⟨_, rfl⟩
  have hB0 : Below w.heap.size w W0 := by rw [hW0]; exact b_alloc (Below.refl _ _) _
  have n0 : W0.heap[w.heap.size]? = some (.cells #[.int .i64 t, .int .i64 n, .string st] 38 (0, 0)) := by rw [hW0]; exact heap_alloc_new w _
  obtain ⟨l, hl⟩ := keyS hk
  obtain ⟨lj, hlj⟩ := keyJ (x := (nm, bs fd, t, n, st)) hk hf ht hn hst
  obtain ⟨v1, v2, hv, h1, _, h0⟩ := (hM.on hB0).look hl
  have x2 : W0.cell? ⟨b, 2, none⟩ = some (.map (some s)) := cell_at (hx.on hB0) rfl
  unfold encS at h1
  cases hH : H nm with
  | none =>
    obtain ⟨rfl, rfl⟩ := h0 hH
    have e1 : keyA H G nm fd t n st = (0, 5) := by unfold keyA; rw [hH]
    rw [e1, errV_ne (by decide)]
    rw [hH] at h1
    have HB := Lib.hid hB0
    clear e1 hv h0 hM hl hlj hx hG hks hB0 n0 hH
    go_enter Tryz.func6, Tryz.ntmps6
    go_upto_region 1 with fail
    rw [← hW0]
    clear hW0
    go_wp2
    go_ret2
    exact ⟨rfl, b_alloc HB.out _⟩
  | some p =>
    obtain ⟨q1, q2, e, o1, o2⟩ := hv p hH
    injection e with e
    obtain ⟨rfl, rfl⟩ : v1 = q1 ∧ v2 = q2 := by simpa using e
    obtain ⟨a1, c1, rfl⟩ := own_slice o1
    obtain ⟨a2, c2, rfl⟩ := own_slice o2
    rw [hH] at h1
    obtain ⟨W1, hW1⟩ : ∃ W1, W1 = W0.alloc (.cells #[.slice a1 p.kn.length c1, .slice a2 p.ks.length c2] 90) := ⟨_, rfl⟩
    have hB1 : Below W0.heap.size W0 W1 := by rw [hW1]; exact b_alloc (Below.refl _ _) _
    have hB01 := on1K hB0 hB1 (Nat.le_refl _)
    have n1 : W1.heap[W0.heap.size]? = some (.cells #[.slice a1 p.kn.length c1, .slice a2 p.ks.length c2] 90 (0, 0)) := by rw [hW1]; exact heap_alloc_new W0 _
    have n0' := (hB1.block _ (Array.getElem?_eq_some_iff.1 n0).1).trans n0
    have y1 : W1.cell? ⟨W0.heap.size, 1, none⟩ = some (.slice a2 p.ks.length c2) := cell_at n1 rfl
    have z0 : W1.cell? ⟨w.heap.size, 0, none⟩ = some (.int .i64 t) := cell_at n0' rfl
    have z1 : W1.cell? ⟨w.heap.size, 1, none⟩ = some (.int .i64 n) := cell_at n0' rfl
    have z2 : W1.cell? ⟨w.heap.size, 2, none⟩ = some (.string st) := cell_at n0' rfl
    have x6 : W1.cell? ⟨b, 6, none⟩ = some (.map (some m2)) := cell_at (hx.on hB01) rfl
    have cc := contains_any (own_isS (own_kt o2 (.of_below hB1))) (hks nm p hH) fd
    have hlook := (hG.of_block (hB01.block m2 hG.lt)).drew.look keyedJ encJ_inj Tryz.underlying81 (zero3 W1.drew) hlj true
    have HE : Hid (keyA H G nm fd t n st = if hasN p.ks fd then keyB (G (nm, bs fd, t, n, st)) else (0, 3)) := by show _ = _; unfold keyA; rw [hH]
    have HB := Lib.hid hB01
    have HW1 := Lib.hid hW1
    generalize keyA H G nm fd t n st = ka at HE ⊢
    generalize hasN p.ks fd = hf1 at cc HE
    generalize G (nm, bs fd, t, n, st) = g at hlook HE
    generalize p.kn.length = n1' at *
    generalize p.ks.length = n2' at *
    unfold encJ at hlook
    simp only at hlook
    clear hv h0 hM hl hlj hx hG hks hB0 hH n0 n0' n1 o1 o2 e hB1 hB01 hW1
    cases hf1
    · have HE' : ka = (0, 3) := HE.out
      subst HE'
      rw [errV_ne (by decide)]
      clear hlook HE
      go_enter Tryz.func6, Tryz.ntmps6
      go_upto_region 1 with fail
      rw [← hW0]
      clear hW0
      go_upto_region 2 with fail
      rw [← HW1.out]
      go_wp2_with (first | (go_at_call 25; refine cc.mono ?_; rintro e W2 ⟨rfl, rfl⟩))
      go_ret2
      exact ⟨rfl, HB.out⟩
    · have HE' : ka = keyB g := HE.out
      subst HE'
      clear HE
      cases g with
      | none =>
        rw [show (keyB none).1 = 0 from rfl, show (keyB none).2 = 5 from rfl, errV_ne (by decide)]
        simp only [Option.map_none, Option.getD_none, Option.isSome_none, if_true] at hlook
        go_enter Tryz.func6, Tryz.ntmps6
        go_upto_region 1 with fail
        rw [← hW0]
        clear hW0
        go_upto_region 2 with fail
        rw [← HW1.out]
        have d0 : W1.drew.cell? ⟨w.heap.size, 0, none⟩ = some (.int .i64 t) := z0
        have d1 : W1.drew.cell? ⟨w.heap.size, 1, none⟩ = some (.int .i64 n) := z1
        have d2 : W1.drew.cell? ⟨w.heap.size, 2, none⟩ = some (.string st) := z2
        have d6 : W1.drew.cell? ⟨b, 6, none⟩ = some (.map (some m2)) := x6
        go_wp2_with (first | (go_at_call 25; refine cc.mono ?_; rintro e W2 ⟨rfl, rfl⟩))
        go_region
        go_wp2
        go_ret2
        exact ⟨rfl, b_drew HB.out⟩
      | some id =>
        rw [show (keyB (some id)).1 = id from rfl, show (keyB (some id)).2 = 0 from rfl, errV_0]
        simp only [Option.map_some, Option.getD_some, Option.isSome_some, if_true] at hlook
        go_enter Tryz.func6, Tryz.ntmps6
        go_upto_region 1 with fail
        rw [← hW0]
        clear hW0
        go_upto_region 2 with fail
        rw [← HW1.out]
        have d0 : W1.drew.cell? ⟨w.heap.size, 0, none⟩ = some (.int .i64 t) := z0
        have d1 : W1.drew.cell? ⟨w.heap.size, 1, none⟩ = some (.int .i64 n) := z1
        have d2 : W1.drew.cell? ⟨w.heap.size, 2, none⟩ = some (.string st) := z2
        have d6 : W1.drew.cell? ⟨b, 6, none⟩ = some (.map (some m2)) := x6
        go_wp2_with (first | (go_at_call 25; refine cc.mono ?_; rintro e W2 ⟨rfl, rfl⟩))
        go_region
        go_wp2
        go_ret2
        exact ⟨rfl, b_drew HB.out⟩
end Go.Proofs.YtjnjbajnmclmjaaGreatDoor

/-
  The walk of tables.noteKeys.
-/
namespace Go.Proofs.YtjnjbajnmclmjaaGreatDoor
open Go.RowKit
open Go.Maps (Keyed)
set_option linter.unusedVariables false
set_option linter.unusedSimpArgs false

def keyO (nm : ByteArray) (p : Pr) : KeyJ := (nm, p.nm, p.t, p.n, p.s)
/-- One property is noted, if it is a key's, and none has it. -/
def noteS (nm : ByteArray) (ks : List Nm) (id : Int) (G : KeyJ → Option Int) (p : Pr) : KeyJ → Option Int := if (!(G (keyO nm p)).isSome && hasN ks p.nm.toList) = true then upd G (keyO nm p) id else G
def noteF (nm : ByteArray) (ks : List Nm) (id : Int) (G : KeyJ → Option Int) (rc : List Pr) : KeyJ → Option Int := rc.foldl (noteS nm ks id) G
def MapJ (w : World) (m : Nat) (G : KeyJ → Option Int) : Prop := OwnM w Tryz.prog 96 encJ m (fun x => (G x).map (.int .i64))
set_option maxHeartbeats 8000000 in
set_option maxRecDepth 100000 in
theorem noteKeys_any {m1 m2 m3 : Nat} {w : World} {G : KeyJ → Option Int} (hG : MapJ w m2 G) {nm kd : ByteArray} {ks : List Nm} {vks rv : Value} (hS : IsS w vks ks) (hks : ks.length ≤ 1000) {id : Int} {rc : List Pr} (hR : IsR w rv rc) (hrc : rc.length ≤ 1000) (hl : ∀ p ∈ rc, ∃ l, keyOf Tryz.prog 96 (encJ (keyO nm p)) = some l) :
    Calls Tryz.prog 67 #[.agg #[.map (some m1), .map (some m2), .map (some m3)], .string nm, vks, .agg #[.int .i64 id, .string kd, rv]] w fun e w' => e = .returned (.tuple #[]) ∧ MapJ w' m2 (noteF nm ks id G rc) ∧ w.grownBy w' (some m2) ∧ Kp w w' := by
  obtain ⟨W0, hW0⟩ : ∃ W0, W0 = (w.alloc (.cells #[.map (some m1), .map (some m2), .map (some m3)] 84)).alloc (.cells #[.int .i64 id, .string kd, rv] 44) := ⟨_, rfl⟩
  have hB0 : Below w.heap.size w W0 := by rw [hW0]; exact b_alloc (b_alloc (Below.refl _ _) _) _
  have hs0 : W0.heap.size = w.heap.size + 2 := by rw [hW0]; simp
  have n0 : W0.heap[w.heap.size]? = some (.cells #[.map (some m1), .map (some m2), .map (some m3)] 84 (0, 0)) := by rw [hW0]; exact (heap_alloc_old _ _ (by simp)).trans (heap_alloc_new w _)
  have n1 : W0.heap[w.heap.size + 1]? = some (.cells #[.int .i64 id, .string kd, rv] 44 (0, 0)) := by
    have := heap_alloc_new (w.alloc (.cells #[.map (some m1), .map (some m2), .map (some m3)] 84)) (.cells #[.int .i64 id, .string kd, rv] 44)
    rw [World.size_alloc] at this; rw [hW0]; exact this
  have hG0 : MapJ W0 m2 (noteF nm ks id G (rc.take 0)) := OwnM.of_block hG (hB0.block m2 hG.lt)
  have HH : Hid (Below w.heap.size w W0 ∧ W0.cell? ⟨w.heap.size, 1, none⟩ = some (.map (some m2)) ∧ W0.cell? ⟨w.heap.size + 1, 0, none⟩ = some (.int .i64 id) ∧ MapJ W0 m2 (noteF nm ks id G (rc.take 0)) ∧ IsS W0 vks ks ∧ IsR W0 rv rc) := ⟨hB0, cell_at n0 rfl, cell_at n1 rfl, hG0, hS.kp (.of_below hB0), hR.kp (.of_below hB0)⟩
  obtain ⟨av, lv, rfl, _⟩ := hR
  obtain ⟨as', ls, cs', rfl⟩ : ∃ a l c, vks = .slice a l c := by
    rcases hS with ⟨a, c, rfl, _⟩ | ⟨b, off, c, rfl, _⟩
    · exact ⟨_, _, _, rfl⟩
    · exact ⟨_, _, _, rfl⟩
  have c2 : W0.cell? ⟨w.heap.size + 1, 2, none⟩ = some (.slice av rc.length lv) := cell_at n1 rfl
  clear hB0 n0 n1 hG0 hG hS
  go_enter Tryz.func67, Tryz.ntmps67
  go_upto_region 1 with fail
  rw [← hW0]
  clear hW0
  go_wp2
  go_loopw [16] (fun i wr => ∃ k : Nat, k ≤ rc.length ∧ i = .int .i64 k ∧ MapJ wr m2 (noteF nm ks id G (rc.take k)) ∧ W0.grownBy wr (some m2) ∧ Kp W0 wr) (fun i _ => rc.length - (intOf i).toNat)
  case atStart => exact ⟨0, Nat.zero_le _, rfl, HH.out.2.2.2.1, but_of_below (Below.refl _ _) _, Kp.refl _⟩
  case round =>
    obtain ⟨k, hk, rfl, hM, hg, hK⟩ := hrel
    by_cases hlt : k < rc.length
    · obtain ⟨x, hx⟩ : ∃ x, rc[k]? = some x := ⟨rc[k], by simp [hlt]⟩
      have hxm := List.mem_of_getElem? hx
      obtain ⟨lx, hlx⟩ := hl x hxm
      obtain ⟨b, off, c, hv, hb, e0, e1, e2, e3⟩ := (HH.out.2.2.2.2.2.kp hK).at hx
      injection hv with hv1 hv2 hv3
      subst hv1 hv3
      clear hv2
      have hT : noteF nm ks id G (rc.take (k + 1)) = noteS nm ks id (noteF nm ks id G (rc.take k)) x := foldl_take _ _ hx
      obtain ⟨W1, hW1⟩ : ∃ W1, W1 = wr.alloc (.cells #[.string x.nm, .int .i64 x.t, .int .i64 x.n, .string x.s] 40) := ⟨_, rfl⟩
      obtain ⟨W2, hW2⟩ : ∃ W2, W2 = W1.alloc (.cells #[.string nm, .string x.nm, .int .i64 x.t, .int .i64 x.n, .string x.s] 96) := ⟨_, rfl⟩
      have hB1 : Below wr.heap.size wr W1 := by rw [hW1]; exact b_alloc (Below.refl _ _) _
      have hB2 : Below W1.heap.size W1 W2 := by rw [hW2]; exact b_alloc (Below.refl _ _) _
      have hB12 := on1K hB1 hB2 (Nat.le_refl _)
      have m0 : W1.heap[wr.heap.size]? = some (.cells #[.string x.nm, .int .i64 x.t, .int .i64 x.n, .string x.s] 40 (0, 0)) := by rw [hW1]; exact heap_alloc_new wr _
      have m4 : W2.heap[W1.heap.size]? = some (.cells #[.string nm, .string x.nm, .int .i64 x.t, .int .i64 x.n, .string x.s] 96 (0, 0)) := by rw [hW2]; exact heap_alloc_new W1 _
      have m0' := (hB2.block _ (Array.getElem?_eq_some_iff.1 m0).1).trans m0
      have hK2 := hK.trans (.of_below hB12)
      have hM2 : MapJ W2 m2 (noteF nm ks id G (rc.take k)) := OwnM.of_block hM (hB12.block m2 hM.lt)
      have u0 : W1.cell? ⟨wr.heap.size, 0, none⟩ = some (.string x.nm) := cell_at m0 rfl
      have u1 : W1.cell? ⟨wr.heap.size, 1, none⟩ = some (.int .i64 x.t) := cell_at m0 rfl
      have u2 : W1.cell? ⟨wr.heap.size, 2, none⟩ = some (.int .i64 x.n) := cell_at m0 rfl
      have u3 : W1.cell? ⟨wr.heap.size, 3, none⟩ = some (.string x.s) := cell_at m0 rfl
      have t0 : W2.cell? ⟨W1.heap.size, 0, none⟩ = some (.string nm) := cell_at m4 rfl
      have t1 : W2.cell? ⟨W1.heap.size, 1, none⟩ = some (.string x.nm) := cell_at m4 rfl
      have t2 : W2.cell? ⟨W1.heap.size, 2, none⟩ = some (.int .i64 x.t) := cell_at m4 rfl
      have t3 : W2.cell? ⟨W1.heap.size, 3, none⟩ = some (.int .i64 x.n) := cell_at m4 rfl
      have t4 : W2.cell? ⟨W1.heap.size, 4, none⟩ = some (.string x.s) := cell_at m4 rfl
      have u0' : W2.cell? ⟨wr.heap.size, 0, none⟩ = some (.string x.nm) := cell_at m0' rfl
      have g1 := hK2.2 _ _ HH.out.2.1
      have g2 := hK2.2 _ _ HH.out.2.2.1
      have cc := contains_any (HH.out.2.2.2.2.1.kp hK2) hks x.nm.toList
      rw [bs_self] at cc
      have hlook := hM2.look keyedJ encJ_inj Tryz.underlying81 (zero3 W2) hlx true
      obtain ⟨W3, p1, p2, p3⟩ := hM2.put keyedJ encJ_inj Tryz.underlying81 hlx (.int .i64 id)
      rw [upd_map] at p2
      have HP : Hid (MapJ W3 m2 (upd (noteF nm ks id G (rc.take k)) (keyO nm x) id) ∧ W0.grownBy W3 (some m2) ∧ Kp W0 W3) := ⟨p2, but_trans (but_below hg hB12) p3, hK2.trans (but_map hM2 p3)⟩
      have HQ : Hid (MapJ W2 m2 (noteF nm ks id G (rc.take k)) ∧ W0.grownBy W2 (some m2) ∧ Kp W0 W2) := ⟨hM2, but_below hg hB12, hK2⟩
      have HW1 := Lib.hid hW1
      have HW2 := Lib.hid hW2
      have HT := Lib.hid hT
      have hse : noteS nm ks id (noteF nm ks id G (rc.take k)) x = if (!(noteF nm ks id G (rc.take k) (keyO nm x)).isSome && hasN ks x.nm.toList) = true then upd (noteF nm ks id G (rc.take k)) (keyO nm x) id else noteF nm ks id G (rc.take k) := rfl
      have HSE := Lib.hid hse
      generalize hasN ks x.nm.toList = hn1 at cc HSE
      obtain ⟨o, ho⟩ : ∃ o, o = noteF nm ks id G (rc.take k) (keyO nm x) := ⟨_, rfl⟩
      rw [← ho] at hlook HSE
      unfold encJ keyO at hlook p1
      simp only at hlook p1
      obtain ⟨xn, xt, xm, xs⟩ := x
      simp only at *
      clear hB1 hB2 hB12 m0 m0' m4 hK hK2 hM hM2 hg p2 p3 hx hxm hlx hT hse ho hW1 hW2
      cases o with
      | some id0 =>
        simp only [Option.map_some, Option.getD_some, Option.isSome_some, if_true] at hlook
        go_upto_region 4 with fail
        rw [← HW1.out]
        go_upto_region 5 with fail
        rw [← HW2.out]
        go_wp2
        go_roundw
        case rel => exact ⟨k + 1, by omega, by go_num, by rw [HT.out, HSE.out]; exact HQ.out.1, HQ.out.2⟩
        case measure => simp [intOf]; omega
      | none =>
        simp only [Option.map_none, Option.getD_none, Option.isSome_none, if_true] at hlook
        cases hn1
        · skip
          go_upto_region 4 with fail
          rw [← HW1.out]
          go_upto_region 5 with fail
          rw [← HW2.out]
          go_wp2_with (first | (go_at_call 25; refine cc.mono ?_; rintro e W4 ⟨rfl, rfl⟩))
          go_roundw
          case rel => exact ⟨k + 1, by omega, by go_num, by rw [HT.out, HSE.out]; exact HQ.out.1, HQ.out.2⟩
          case measure => simp [intOf]; omega
        · skip
          go_upto_region 4 with fail
          rw [← HW1.out]
          go_upto_region 5 with fail
          rw [← HW2.out]
          go_wp2_with (first | (go_at_call 25; refine cc.mono ?_; rintro e W4 ⟨rfl, rfl⟩))
          go_roundw
          case rel => exact ⟨k + 1, by omega, by go_num, by rw [HT.out, HSE.out]; exact HP.out.1, HP.out.2⟩
          case measure => simp [intOf]; omega
    · obtain rfl : k = rc.length := by omega
      rw [List.take_length] at hM
      go_wp2
      go_end0
      exact ⟨rfl, hM, but_trans (but_of_below HH.out.1 _) hg, (Kp.of_below HH.out.1).trans hK⟩
end Go.Proofs.YtjnjbajnmclmjaaGreatDoor

/-
  Where append leaves a row of the call's own; a map to such rows, two keys' rows apart.
-/
namespace Go.Proofs.YtjnjbajnmclmjaaGreatDoor
open Go.RowKit
open Go.Maps (Keyed)
set_option linter.unusedVariables false
set_option linter.unusedSimpArgs false

/-- The row stays where it is, or it lies in a block that was not there. -/
def Moved (w : World) (v v' : Value) : Prop := v'.ownBlock = v.ownBlock ∨ ∃ g, v'.ownBlock = some g ∧ w.heap.size ≤ g
theorem append_at {P : Program} (w : World) (base : Nat) (t ty e : TypeId) (i : TypeInfo) (z : Value) (size bytes : Nat) (ht : P.underlying t = some (.slice e)) (hi : P.info? e = some i) (hz : i.zero = some z)
    (hsize : i.size = size) (hby : i.bytes = bytes) (hzs : z.cells.size = size) (hsz : 0 < size) (v : Value) (n : Nat) (xs : List Value) (hown : w.ownsRow base e size v n xs)
    (a : Addr) (m c : Nat) (hm : 0 < m) (news : List Value) (hl : news.length = m * size) (hnews : ∀ j u, news[j]? = some u → w.cell? (a.add j) = some u) (h1 : ∀ u ∈ news, u.oneCell' = true)
    (h63 : n + m ≤ maxLen) (hbytes : (n + m) * bytes ≤ 140737488355328) (hbase : base ≤ w.heap.size) :
    ∃ v' w', (Builtin.append_ #[t, t] ty #[v, .slice (some a) m c]).run P w = .ok v' w' ∧ w'.ownsRow base e size v' (n + m) (xs ++ news) ∧ w.grownBy w' v.ownBlock ∧ Moved w v v' ∧ v'.ownBlock ≠ none := by
  obtain ⟨v', w', r1, r2, r3, r4⟩ := run_append_own (P := P) w base t ty e i z size bytes ht hi hz hsize hby hzs hsz v n xs hown a m c news hl hnews h1 h63 hbytes hbase
  have hnn : v'.ownBlock ≠ none := by
    rcases r2.2 with ⟨_, h0⟩ | ⟨g, cap, cur, rfl, _⟩
    · omega
    · simp [Value.ownBlock]
  refine ⟨v', w', r1, r2, r3, ?_, hnn⟩
  have hsmall : n + m ≤ 9223372036854775807 := by simp only [maxLen] at h63; omega
  rcases hown.2 with ⟨rfl, rfl⟩ | ⟨g, cap, cur, rfl, hbg, hg, hnc, hcm, hcs, htake⟩
  · have hx : xs = [] := List.eq_nil_of_length_eq_zero (by simpa using hown.1)
    subst hx
    obtain ⟨v2, w2, q1, q2, _, _⟩ := run_append_own (P := P) w w.heap.size t ty e i z size bytes ht hi hz hsize hby hzs hsz (.slice none 0 0) 0 [] (World.ownsRow_nil _ _ _ _) a m c news hl hnews h1 h63 hbytes (Nat.le_refl _)
    rw [r1] at q1
    injection q1 with e1 e2
    subst e1
    rcases q2.2 with ⟨_, h0⟩ | ⟨g, cap, cur, rfl, hge, _⟩
    · omega
    · exact .inr ⟨g, rfl, hge⟩
  · subst hsize hby
    by_cases hroom : n + m ≤ cap
    · have hfit : n * i.size + news.length ≤ cur.size := by rw [hl, hcs, ← Nat.add_mul]; exact Nat.mul_le_mul_right _ hroom
      have hr := run_append_room (P := P) w t ty e i ht hi g n cap cur hg a m c news hl hnews h1 hroom hfit
      rw [r1] at hr
      injection hr with e1 e2
      subst e1
      exact .inl rfl
    · have holds : ∀ j u, xs[j]? = some u → w.cell? ((⟨g, 0, none⟩ : Addr).add j) = some u := hown.cells (g := g) rfl
      have hr := run_append_grow (P := P) w t ty e i z ht hi hz ⟨g, 0, none⟩ n cap xs hown.1 holds a m c news hl hnews (by omega) (by omega) (growslice_fits (by omega) hbytes)
      rw [r1] at hr
      injection hr with e1 e2
      subst e1
      exact .inr ⟨_, rfl, Nat.le_refl _⟩
/-- Block b is a map to rows of the call's own, and two keys' rows lie in two blocks. -/
def MapW {κ : Type} (w : World) (base : Nat) (k : TypeId) (enc : κ → Value) (b : Nat) (H : κ → Option (List Int)) : Prop :=
  ∃ F, OwnM w Tryz.prog k enc b F ∧ (∀ x, (F x = none ∧ H x = none) ∨ ∃ v L, F x = some v ∧ H x = some L ∧ w.ownsRow base 3 1 v L.length (cellsI L)) ∧ ∀ x y v u g, x ≠ y → F x = some v → F y = some u → v.ownBlock = some g → u.ownBlock ≠ some g
theorem MapW.on {κ : Type} {w w' : World} {base : Nat} {k : TypeId} {enc : κ → Value} {b : Nat} {H : κ → Option (List Int)} (h : MapW w base k enc b H) (hb : w'.heap[b]? = w.heap[b]?) (hk : Kt 3 w w') : MapW w' base k enc b H := by
  obtain ⟨F, h1, h2, h3⟩ := h
  refine ⟨F, h1.of_block hb, fun x => ?_, h3⟩
  rcases h2 x with h | ⟨v, L, e1, e2, hh⟩
  · exact .inl h
  · exact .inr ⟨v, L, e1, e2, own_kt hh hk⟩
end Go.Proofs.YtjnjbajnmclmjaaGreatDoor
