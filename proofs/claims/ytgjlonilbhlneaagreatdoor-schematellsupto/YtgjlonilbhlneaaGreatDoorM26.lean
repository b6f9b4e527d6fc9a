/-
  The walks of kinref1.Is and kinref2.Under.
-/
import Derived.Test.YtgjlonilbhlneaaGreatDoorM25
namespace Go.Proofs.YtgjlonilbhlneaaGreatDoor
open Go.RowKit
set_option linter.unusedVariables false
set_option linter.unusedSimpArgs false

def kinF (L : List Kd) (a : Nm) : List Kd := L.filter fun x => hasN (names L a) x.nm
theorem idx_of {L : List Kd} (hR : Right L) {i : Nat} {k : Kd} (hk : L[i]? = some k) : idxK k.nm L 0 = (i : Int) := by
  have hne : ¬ idxK k.nm L 0 = -1 := fun e => idxK_none e k (List.mem_of_getElem? hk) rfl
  obtain ⟨j, x, h1, h2, h3⟩ := idxK_has hne
  have := right_names hR j i x k h2 hk h3
  rw [h1, this]
set_option maxHeartbeats 4000000 in
set_option maxRecDepth 100000 in
theorem ris_some (b off cap : Nat) (L : List Kd) (i : Nat) (q : Kd) (s : Nm) (w : World) (hb : b < w.heap.size) (hL : LiesK w b off L) (hP : Parts w L) (hS : Small L) (hn : L.length ≤ 12) (hR : Right L) (hq : L[i]? = some q) :
    Calls Tryz.prog 16 #[.slice (some ⟨b, off, none⟩) L.length cap, .string (bs q.nm), .string (bs s)] w fun e w' => e = .returned (.bool (hasN (nms (kinF L q.nm)) s)) ∧ Below w.heap.size w w' := by
  have c1 := rkin_some b off cap L q.nm i q w hb hL hP hS hn hR (idx_of hR hq) hq rfl
  have hl : (nms (kinF L q.nm)).length ≤ 1000 := by
    unfold nms kinF
    have := List.length_filter_le (fun x => hasN (names L q.nm) x.nm) L
    simp
    omega
  have HL : Hid ((nms (kinF L q.nm)).length ≤ 1000) := hl
  clear hL hP hS hR hq hl
  go_enter Tryz.func16, Tryz.ntmps16
  go_wp2_with (go_at_call 40; refine c1.mono ?_; rintro e W1 ⟨v1, rfl, hown, hB1⟩; refine Hid.out ?_)
  refine Lib.hid ?_
  have c2 := in_any (own_isS hown) HL.out s
  clear c1 hown
  change Calls Tryz.prog 39 #[v1, .string (bs s)] W1 (fun e w' => e = .returned (.bool (hasN (nms (kinF L q.nm)) s)) ∧ w' = W1) at c2
  obtain ⟨r, hr⟩ : ∃ r, r = hasN (nms (kinF L q.nm)) s := ⟨_, rfl⟩
  have HR : Hid (r = hasN (nms (kinF L q.nm)) s) := hr
  rw [← hr] at c2
  clear hr
  go_wp2_with (go_at_call 39; refine c2.mono ?_; rintro e W2 ⟨rfl, rfl⟩)
  go_ret
  exact ⟨ret_v (by rw [← HR.out]; rfl), hB1⟩
end Go.Proofs.YtgjlonilbhlneaaGreatDoor

/-
  One field more, put in from the end: mathematics; and the three appends of kinref1.Fields.
-/
namespace Go.Proofs.YtgjlonilbhlneaaGreatDoor
open Go.RowKit
set_option linter.unusedVariables false
set_option linter.unusedSimpArgs false

def upF (nm : Nm) (al : List Fd) : Nat := lo nm al + (if fnd nm al = true then 1 else 0)
theorem fnd_at {nm : Nm} {al : List Fd} (h : fnd nm al = true) : ∃ g, al[lo nm al]? = some g ∧ g.nm = nm := by
  unfold fnd at h
  split at h
  · rename_i g hg
    exact ⟨g, hg, by simpa using h⟩
  · cases h
theorem upF_le (nm : Nm) (al : List Fd) : upF nm al ≤ al.length := by
  unfold upF
  split
  · rename_i h
    obtain ⟨g, hg, _⟩ := fnd_at h
    have := (List.getElem?_eq_some_iff.1 hg).1
    omega
  · have := lo_le nm al
    omega
theorem srt_lt {al : List Fd} (h : Srt al) {i j : Nat} {x y : Fd} (hx : al[i]? = some x) (hy : al[j]? = some y) (hij : i < j) : Op.bytesLess x.nm y.nm = true := by
  obtain ⟨h1, e1⟩ := List.getElem?_eq_some_iff.1 hx
  obtain ⟨h2, e2⟩ := List.getElem?_eq_some_iff.1 hy
  have := List.pairwise_iff_getElem.1 h i j h1 h2 hij
  rw [e1, e2] at this
  exact this
theorem up_gt {nm : Nm} {al : List Fd} (h : Srt al) {i : Nat} {g : Fd} (hg : al[i]? = some g) (hi : upF nm al ≤ i) : Op.bytesLess nm g.nm = true := by
  have hlo : lo nm al ≤ i := by unfold upF at hi; omega
  have hnl : ¬ Op.bytesLess g.nm nm = true := fun e => by
    have := (lo_spec nm h i g hg).2 e; omega
  refine less_tri (by simpa using hnl) (fun e => ?_)
  by_cases hf : fnd nm al = true
  · obtain ⟨x, hx, hxn⟩ := fnd_at hf
    have hlt : lo nm al < i := by unfold upF at hi; rw [if_pos hf] at hi; omega
    have := srt_lt h hx hg hlt
    rw [hxn, e, less_irr] at this
    exact absurd this (by decide)
  · by_cases hil : i = lo nm al
    · subst hil
      apply hf
      unfold fnd
      rw [hg]; simpa using e
    · obtain ⟨x, hx⟩ : ∃ x, al[lo nm al]? = some x := ⟨al[lo nm al]'(by have := (List.getElem?_eq_some_iff.1 hg).1; omega), by simp⟩
      have h2 := srt_lt h hx hg (by omega)
      rw [e] at h2
      have := (lo_spec nm h _ x hx).2 h2
      omega
theorem up_last {nm : Nm} {al : List Fd} (h : Srt al) {i : Nat} {g : Fd} (hg : al[i]? = some g) (hi : upF nm al = i + 1) : Op.bytesLess nm g.nm = false ∧ (g.nm == nm) = fnd nm al := by
  by_cases hf : fnd nm al = true
  · obtain ⟨x, hx, hxn⟩ := fnd_at hf
    have : i = lo nm al := by unfold upF at hi; rw [if_pos hf] at hi; omega
    subst this
    rw [hg] at hx
    obtain rfl := Option.some.inj hx
    rw [hxn, hf]
    exact ⟨less_irr _, by simp⟩
  · have hl : i < lo nm al := by unfold upF at hi; rw [if_neg hf] at hi; omega
    have h1 := (lo_spec nm h i g hg).1 hl
    have hf' : fnd nm al = false := by simpa using hf
    refine ⟨less_asym h1, ?_⟩
    rw [hf']
    have : ¬ g.nm = nm := fun e => by rw [e, less_irr] at h1; exact absurd h1 (by decide)
    simpa using this
theorem up_new {nm : Nm} {al : List Fd} (hf : fnd nm al = false) : upF nm al = lo nm al := by unfold upF; rw [if_neg (by rw [hf]; decide)]; rfl
theorem liesF_cell {w : World} {b off : Nat} {l : List Fd} (hl : LiesF w b off l) : ∀ j u, (cellsF l)[j]? = some u → w.cell? ⟨b, off + j, none⟩ = some u := by
  intro j u hu
  have hjl := (List.getElem?_eq_some_iff.1 hu).1
  rw [cellsF_len] at hjl
  obtain ⟨k, r, hr, rfl⟩ : ∃ k r, r < 4 ∧ j = k * 4 + r := ⟨j / 4, j % 4, by omega, by omega⟩
  have hq : k < l.length := by omega
  have hat := flat_at Fd.cells 4 (fun _ => rfl) l k l[k] r (List.getElem?_eq_getElem hq) hr
  have hu' : (l.flatMap Fd.cells)[k * 4 + r]? = some u := hu
  rw [hat] at hu'
  obtain ⟨e0, e1, e2, e3⟩ := hl k l[k] (List.getElem?_eq_getElem hq)
  have h4 : r = 0 ∨ r = 1 ∨ r = 2 ∨ r = 3 := by omega
  rcases h4 with rfl | rfl | rfl | rfl
  · obtain rfl : Value.string (bs l[k].nm) = u := Option.some.inj hu'
    exact e0
  · obtain rfl : Value.int .i64 l[k].t = u := Option.some.inj hu'
    rw [← Nat.add_assoc]; exact e1
  · obtain rfl : Value.bool l[k].must = u := Option.some.inj hu'
    rw [← Nat.add_assoc]; exact e2
  · obtain rfl : Value.bool l[k].key = u := Option.some.inj hu'
    rw [← Nat.add_assoc]; exact e3
theorem app_fields {w : World} {ops : Array Oper} {rest : List Oper} {o : Oper} {a : Act} {Q : Exit → Act → World → Prop} (hgd : o.guard = none) (s x : Operand)
    (ho : o.op = .call { callee := .builtin .append, args := #[s, x], argTypes := #[53, 53] }) (base : Nat)
    (v : Value) (ns l : List Fd) (hs : a.eval s = v) (hown : w.ownsRow base 52 4 v ns.length (cellsF ns)) (u : Value) (hx : a.eval x = u) (hl : IsF w u l) (h63 : ns.length + l.length ≤ 1000) (hbase : base ≤ w.heap.size)
    (h : ∀ v' w', w'.ownsRow base 52 4 v' (ns.length + l.length) (cellsF ns ++ cellsF l) → w.grownBy w' v.ownBlock → wpList Tryz.prog ops Q rest (a.put o.dst v') w') : wpList Tryz.prog ops Q (o :: rest) a w := by
  obtain ⟨i0, hi0, hz0, hz1, hz2⟩ := info_parts info59
  rcases hl with ⟨ao, c0, rfl, rfl, hc0, hcn⟩ | ⟨b, off, cap, rfl, hc, hm, hb, hl⟩
  · cases ao with
    | some ad =>
      refine wpList_append_own w hgd s x 53 ho base 52 i0 _ 4 32 Tryz.underlying53 hi0 hz0 hz1 hz2 rfl (by decide) v ns.length (cellsF ns) hs hown ad 0 c0 [] hx rfl (fun j u hu => by simp at hu) (fun u hu => by simp at hu) (by unfold maxLen; omega) (by omega) hbase (fun v' w' h1 h2 _ => h v' w' h1 h2)
    | none =>
      obtain rfl := hcn rfl
      refine wpList_append_own_none hgd s x 53 ho base 52 i0 4 Tryz.underlying53 hi0 v ns.length (cellsF ns) hs hown hx ?_
      exact h v w (by simpa [cellsF] using hown) ⟨rfl, rfl, rfl, Nat.le_refl _, fun _ _ _ => rfl⟩
  · refine wpList_append_own w hgd s x 53 ho base 52 i0 _ 4 32 Tryz.underlying53 hi0 hz0 hz1 hz2 rfl (by decide) v ns.length (cellsF ns) hs hown ⟨b, off, none⟩ l.length cap (cellsF l) hx (cellsF_len l) ?_ (cellsF_one l) (by unfold maxLen; omega) (by omega) hbase (fun v' w' h1 h2 _ => h v' w' h1 h2)
    intro j u hu
    rw [Addr.add_lit]
    exact liesF_cell hl j u hu
end Go.Proofs.YtgjlonilbhlneaaGreatDoor

/-
  The walk of kinref1.Fields.
-/
namespace Go.Proofs.YtgjlonilbhlneaaGreatDoor
open Go.RowKit
set_option linter.unusedVariables false
set_option linter.unusedSimpArgs false

def RFPost (w : World) (o : Option (List Fd)) (e : Ending) (w' : World) : Prop :=
  ∃ v, e = .returned (.tuple #[v, .bool o.isSome]) ∧ (∀ l, o = some l → w'.ownsRow w.heap.size 52 4 v l.length (cellsF l)) ∧ (o = none → v = .slice none 0 0) ∧ Below w.heap.size w w'
def FR2 (w1 : World) (K : List Kd) (o : Option (List Fd)) (s6 s8 : Value) (wr : World) : Prop :=
  ∃ (i : Nat) (al : List Fd), i ≤ K.length ∧ s8 = .int .i64 i ∧ o = fOf al ((K.drop i).flatMap Kd.fs) ∧ Srt al ∧ al.length ≤ 8 * i ∧ wr.ownsRow w1.heap.size 52 4 s6 al.length (cellsF al) ∧ Below w1.heap.size w1 wr
def FI2 (w1 : World) (K : List Kd) (o : Option (List Fd)) (i : Nat) (p : Kd) (s6 s10 : Value) (wr : World) : Prop :=
  ∃ (m : Nat) (al : List Fd), m ≤ p.fs.length ∧ s10 = .int .i64 m ∧ o = fOf al (p.fs.drop m ++ (K.drop (i + 1)).flatMap Kd.fs) ∧ Srt al ∧ al.length ≤ 8 * i + m ∧ wr.ownsRow w1.heap.size 52 4 s6 al.length (cellsF al) ∧ Below w1.heap.size w1 wr
theorem own_view {w : World} {base : Nat} {v : Value} {l : List Fd} (h : w.ownsRow base 52 4 v l.length (cellsF l)) : (v = .slice none 0 0 ∧ l = []) ∨ ∃ g c, v = .slice (some ⟨g, 0, none⟩) l.length c ∧ l.length ≤ c ∧ c ≤ maxLen ∧ base ≤ g ∧ g < w.heap.size ∧ LiesF w g 0 l := by
  have hF := own_isF h
  rcases h.2 with ⟨rfl, h0⟩ | ⟨g, c, cur, rfl, hb, hg, hle, hcm, _⟩
  · exact .inl ⟨rfl, List.eq_nil_of_length_eq_zero h0⟩
  · right
    rcases hF with ⟨ao, c', e, rfl, _⟩ | ⟨b', o', c', e, _, _, hlt, hl⟩
    · refine ⟨g, c, rfl, hle, hcm, hb, (Array.getElem?_eq_some_iff.1 hg).1, fun k f hf => by simp at hf⟩
    · injection e with e1 e2 e3
      injection e1 with e1
      injection e1 with e4 e5 _
      subst e4; subst e5
      exact ⟨g, c, rfl, hle, hcm, hb, hlt, hl⟩
theorem liesF_take {w : World} {b off : Nat} {l : List Fd} (h : LiesF w b off l) (t : Nat) : LiesF w b off (l.take t) := fun k f hf => by
  rw [List.getElem?_take] at hf
  split at hf
  · exact h k f hf
  · cases hf
theorem liesF_drop {w : World} {b off : Nat} {l : List Fd} (h : LiesF w b off l) (t : Nat) : LiesF w b (off + t * 4) (l.drop t) := fun k f hf => by
  rw [List.getElem?_drop] at hf
  have := h (t + k) f hf
  rw [show off + (t + k) * 4 = off + t * 4 + k * 4 by rw [Nat.add_mul]; omega] at this
  exact this
theorem LiesF.grown {w w' : World} {b off : Nat} {l : List Fd} {row : Option Nat} (h : LiesF w b off l) (hb : b < w.heap.size) (hg : w.grownBy w' row) (hne : some b ≠ row) : LiesF w' b off l := fun k f hf => by
  have e : w'.heap[b]? = w.heap[b]? := hg.block b hb hne
  obtain ⟨c0, c1, c2, c3⟩ := h k f hf
  exact ⟨(World.cell?_of_block (a := ⟨b, _, none⟩) e).trans c0, (World.cell?_of_block (a := ⟨b, _, none⟩) e).trans c1, (World.cell?_of_block (a := ⟨b, _, none⟩) e).trans c2, (World.cell?_of_block (a := ⟨b, _, none⟩) e).trans c3⟩
end Go.Proofs.YtgjlonilbhlneaaGreatDoor
