import Derived.Test.YtahamkajkkkjdaaGreatDoorM34
import Derived.Test.YtahamkajkkkjdaaGreatDoorM51
import Derived.Test.YtahamkajkkkjdaaGreatDoorM37
import Derived.Test.YtahamkajkkkjdaaGreatDoorM02
namespace Go.Proofs.YtahamkajkkkjdaaGreatDoor
open Go.RowKit
set_option linter.unusedVariables false
set_option linter.unusedSimpArgs false
def wrF (f : Fd) : List UInt8 := encT f.nm ++ encN f.t ++ encB f.must ++ encB f.key
def wrK (k : Kd) : List UInt8 := encT k.nm ++ encL encT k.of ++ encL wrF k.fs
def wrE1 (k : Kd) : List UInt8 := encB true ++ (encN 1 ++ wrK k)
def FdI (f : Fd) : Prop := I64 f.t
theorem encT_pos (x : List UInt8) : 1 ≤ (encT x).length := by
  unfold encT
  rw [List.length_append]
  have := encN_pos (x.length : Int)
  omega
theorem wrF_pos (f : Fd) : 1 ≤ (wrF f).length := by
  unfold wrF
  simp only [List.length_append]
  have := encN_pos f.t
  omega
section
variable {w0 u0 : World} {b : Nat} {l : List UInt8}
theorem pw_nm {a : Addr} {x : Nm} (hc : w0.cell? a = some (.string (bs x))) (hl : (l ++ encT x).length ≤ 1099511627776) : ∀ W, Pw w0 u0 b l W → Calls Tryz.prog 32 #[wpt b, .pointer (some a)] W.drew (Ret (Pw w0 u0 b (l ++ encT x))) := fun W h => by
  have := pw_text (u0 := u0) (b := b) (l := l) hc (by rw [bs_data]; unfold encT at hl; simp only [List.length_append] at hl; omega) W h
  rwa [bs_data] at this
theorem pw_nm0 {a : Addr} {x : Nm} (hc : w0.cell? a = some (.string (bs x))) (hl : (l ++ encT x).length ≤ 1099511627776) : ∀ W, Pw w0 u0 b l W → Calls Tryz.prog 32 #[wpt b, .pointer (some a)] W (Ret (Pw w0 u0 b (l ++ encT x))) := fun W h => by
  have := pw_text0 (u0 := u0) (b := b) (l := l) hc (by rw [bs_data]; unfold encT at hl; simp only [List.length_append] at hl; omega) W h
  rwa [bs_data] at this
theorem pw_strs {g off : Nat} {v : Value} {L : List Nm} (hv : w0.cell? ⟨g, off, none⟩ = some v) (hR : IsS w0 v L) (hl : (l ++ encL encT L).length ≤ 1099511627776) :
    ∀ W, Pw w0 u0 b l W → Calls Tryz.prog 122 #[.iface 100 (wpt b), .pointer (some ⟨g, off, none⟩), .func (.methodOf 144 "kinshape/log.text") #[] #[]] W (Ret (Pw w0 u0 b (l ++ encL encT L))) := fun W h => by
  have hn := encL_ge encT encT_pos L
  have hl' := hl
  unfold encL at hl'
  simp only [List.length_append] at hl' hl
  obtain ⟨ao, cp, rfl, eb, eo, ha, hLs⟩ : ∃ ao cp, v = .slice ao L.length cp ∧ ∃ eb eo, (0 < L.length → ao = some ⟨eb, eo, none⟩) ∧ (0 < L.length → LiesS w0 eb eo L) := by
    rcases hR with ⟨ao, c, rfl, rfl, _⟩ | ⟨eb, eo, cap, rfl, _, _, _, hL⟩
    · exact ⟨ao, c, rfl, 0, 0, fun h => absurd h (by simp), fun h => absurd h (by simp)⟩
    · exact ⟨_, cap, rfl, eb, eo, fun _ => rfl, fun _ => hL⟩
  have c := lsS_walk fmW (p := ⟨b, 0, none⟩) (g := g) (off := off) (n := L.length) (cp := cp) (eb := eb) (eo := eo) (ao := ao) (w := W) (Q := fun k => Pw w0 u0 b (l ++ encN L.length ++ (L.take k).flatMap encT)) (by omega) ha (h.cell hv) (pw_len h L.length (by omega) (by omega))
    (fun w' q => ⟨q.2, q.1.cell hv⟩) (fun w' q hq => by simpa using hq.1.drewN q) (fun k w' q => q.cell hv) (fun k hk w' q => by
      obtain ⟨x, hx⟩ : ∃ x, L[k]? = some x := ⟨L[k], by simp [hk]⟩
      have hle2 := encL_le encT L k x hx
      have c := pw_nm0 (l := l ++ encN L.length ++ (L.take k).flatMap encT) (b := b) (w0 := w0) (u0 := u0) (a := ⟨eb, eo + k, none⟩) (x := x) (hLs (by omega) k x hx) (by simp only [List.length_append]; omega) w' q
      refine pret_eq ?_ c
      rw [encL_step encT L k x hx, List.append_assoc])
  refine pret_eq ?_ c
  unfold encL
  rw [List.take_length, List.append_assoc]
theorem pw_field {g off : Nat} {f : Fd} (h0 : w0.cell? ⟨g, off, none⟩ = some (.string (bs f.nm))) (h1 : w0.cell? ⟨g, off + 1, none⟩ = some (.int .i64 f.t)) (h2 : w0.cell? ⟨g, off + 2, none⟩ = some (.bool f.must)) (h3 : w0.cell? ⟨g, off + 3, none⟩ = some (.bool f.key)) (hi : FdI f) (hl : (l ++ wrF f).length ≤ 1099511627776) :
    ∀ W, Pw w0 u0 b l W → Calls Tryz.prog 80 #[.iface 100 (wpt b), .pointer (some ⟨g, off, none⟩)] W (Ret (Pw w0 u0 b (l ++ wrF f))) := fun W h => by
  unfold wrF at hl
  simp only [List.length_append] at hl
  have c := field_walk fmW (p := ⟨b, 0, none⟩) (P0 := Pw w0 u0 b l) h (pw_nm h0 (by simp only [List.length_append]; omega)) (pw_num h1 hi (by simp only [List.length_append]; omega)) (pw_tru h2 (by simp only [List.length_append]; omega)) (pw_tru h3 (by simp only [List.length_append]; omega))
  exact pret_eq (by unfold wrF; simp) c
theorem pw_fields {g off : Nat} {v : Value} {L : List Fd} (hv : w0.cell? ⟨g, off, none⟩ = some v) (hR : IsF w0 v L) (hi : ∀ f ∈ L, FdI f) (hl : (l ++ encL wrF L).length ≤ 1099511627776) :
    ∀ W, Pw w0 u0 b l W → Calls Tryz.prog 123 #[.iface 100 (wpt b), .pointer (some ⟨g, off, none⟩), .func (.func 80) #[] #[]] W (Ret (Pw w0 u0 b (l ++ encL wrF L))) := fun W h => by
  have hn := encL_ge wrF wrF_pos L
  have hl' := hl
  unfold encL at hl'
  simp only [List.length_append] at hl' hl
  obtain ⟨ao, cp, rfl, eb, eo, ha, hLs⟩ : ∃ ao cp, v = .slice ao L.length cp ∧ ∃ eb eo, (0 < L.length → ao = some ⟨eb, eo, none⟩) ∧ (0 < L.length → LiesF w0 eb eo L) := by
    rcases hR with ⟨ao, c, rfl, rfl, _⟩ | ⟨eb, eo, cap, rfl, _, _, _, hL⟩
    · exact ⟨ao, c, rfl, 0, 0, fun h => absurd h (by simp), fun h => absurd h (by simp)⟩
    · exact ⟨_, cap, rfl, eb, eo, fun _ => rfl, fun _ => hL⟩
  have c := lsF_walk fmW (p := ⟨b, 0, none⟩) (g := g) (off := off) (n := L.length) (cp := cp) (eb := eb) (eo := eo) (ao := ao) (w := W) (Q := fun k => Pw w0 u0 b (l ++ encN L.length ++ (L.take k).flatMap wrF)) (by omega) ha (h.cell hv) (pw_len h L.length (by omega) (by omega))
    (fun w' q => ⟨q.2, q.1.cell hv⟩) (fun w' q hq => by simpa using hq.1.drewN q) (fun k w' q => q.cell hv) (fun k hk w' q => by
      obtain ⟨x, hx⟩ : ∃ x, L[k]? = some x := ⟨L[k], by simp [hk]⟩
      have hle2 := encL_le wrF L k x hx
      obtain ⟨c0, c1, c2, c3⟩ := hLs (by omega) k x hx
      have c := pw_field (l := l ++ encN L.length ++ (L.take k).flatMap wrF) (b := b) (w0 := w0) (u0 := u0) (g := eb) (off := eo + k * 4) (f := x) c0 c1 c2 c3 (hi x (List.mem_of_getElem? hx)) (by simp only [List.length_append]; omega) w' q
      refine pret_eq ?_ c
      rw [encL_step wrF L k x hx, List.append_assoc])
  refine pret_eq ?_ c
  unfold encL
  rw [List.take_length, List.append_assoc]
theorem pw_kind {g off : Nat} {k : Kd} (h0 : w0.cell? ⟨g, off, none⟩ = some (.string (bs k.nm))) (h1 : w0.cell? ⟨g, off + 1, none⟩ = some k.vo) (h2 : w0.cell? ⟨g, off + 2, none⟩ = some k.vf) (hS : IsS w0 k.vo k.of) (hF : IsF w0 k.vf k.fs) (hi : ∀ f ∈ k.fs, FdI f) (hl : (l ++ wrK k).length ≤ 1099511627776) :
    ∀ W, Pw w0 u0 b l W → Calls Tryz.prog 79 #[.iface 100 (wpt b), .pointer (some ⟨g, off, none⟩)] W (Ret (Pw w0 u0 b (l ++ wrK k))) := fun W h => by
  unfold wrK at hl
  simp only [List.length_append] at hl
  have c := kind_walk fmW (p := ⟨b, 0, none⟩) (P0 := Pw w0 u0 b l) h (pw_nm h0 (by simp only [List.length_append]; omega)) (pw_strs h1 hS (by simp only [List.length_append]; omega)) (pw_fields h2 hF hi (by simp only [List.length_append]; omega))
  exact pret_eq (by unfold wrK; simp) c
theorem pw_ent1 {g off : Nat} {k : Kd} (hb : w0.cell? ⟨g, off, none⟩ = some (.bool true)) (hw : w0.cell? ⟨g, off + 2, none⟩ = some (.int .i64 1)) (h0 : w0.cell? ⟨g, off + 4, none⟩ = some (.string (bs k.nm))) (h1 : w0.cell? ⟨g, off + 5, none⟩ = some k.vo) (h2 : w0.cell? ⟨g, off + 6, none⟩ = some k.vf) (hS : IsS w0 k.vo k.of) (hF : IsF w0 k.vf k.fs) (hi : ∀ f ∈ k.fs, FdI f) (hl : (l ++ wrE1 k).length ≤ 1099511627776) :
    ∀ W, Pw w0 u0 b l W → Calls Tryz.prog 31 #[.pointer (some ⟨g, off, none⟩), .iface 100 (wpt b)] W (Ret (Pw w0 u0 b (l ++ wrE1 k))) := fun W h => by
  unfold wrE1 at hl
  simp only [List.length_append] at hl
  have cK := pw_kind (u0 := u0) (b := b) (l := l ++ encB true ++ encN 1) (g := g) (off := off + 2 + 2) h0 h1 h2 hS hF hi (by simp only [List.length_append]; omega)
  have c := ent1_walk fmW (p := ⟨b, 0, none⟩) (P0 := Pw w0 u0 b l) h (pw_tru hb (by omega)) (fun W q => ch1_walk fmW (p := ⟨b, 0, none⟩) (P0 := Pw w0 u0 b (l ++ encB true)) q (pw_num hw ⟨by decide, by decide⟩ (by simp only [List.length_append]; omega)) cK (fun W q => q.cell hw)) (fun W q => q.cell hb)
  exact pret_eq (by unfold wrE1; simp) c
end
theorem wr_kind {w : World} {cs : Array Value} {c : Ch} (h0 : cs[0]? = some (.bool true)) (h1 : ∀ (j : Nat) v, c.cells[j]? = some v → cs[2 + j]? = some v) (hw : c.wh = 1) (hc : ChIs w c) (hi : ∀ f ∈ c.kd.fs, FdI f) (hl : (recL (wrE1 c.kd)).length ≤ 1099511627776) (hE : Env w) :
    Calls Tryz.prog 21 #[.agg cs] w fun e w' => ∃ v, e = .returned v ∧ w'.ownsRow w.heap.size 5 1 v (recL (wrE1 c.kd)).length (Lib.byteCells (recL (wrE1 c.kd))) ∧ Below w.heap.size w w' := by
  have hb := heap_alloc_new w (.cells cs 75)
  have hB := bA (Below.refl w.heap.size w) (Nat.le_refl _) (.cells cs 75)
  have hc' := hc.on hB
  have hbl : (wrE1 c.kd).length ≤ 1099511627776 := by unfold recL encT at hl; rw [List.length_append] at hl; omega
  have hn : 1 ≤ (wrE1 c.kd).length := by
    unfold wrE1 encB
    rw [List.length_append]
    have := encN_pos (if true = true then 1 else 0)
    omega
  exact written_any (wrE1 c.kd) hn hl (fun w' hw' => hE.tab w' (hw'.mono hE.sz)) (fun u0 b W q => by
    have := pw_ent1 (u0 := u0) (b := b) (l := []) (k := c.kd) (cell_at hb h0) (by rw [← hw]; exact cell_at hb (h1 0 _ rfl)) (cell_at hb (h1 2 _ rfl)) (cell_at hb (h1 3 _ rfl)) (cell_at hb (h1 4 _ rfl)) hc'.1 hc'.2 hi (by rw [List.nil_append]; exact hbl) W q
    rwa [List.nil_append] at this)
theorem FrL.b {base : Nat} {w w' : World} (hB : Below w.heap.size w w') (hb : base ≤ w.heap.size) : FrL base w w' := ⟨hB.mono hb, fun t _ _ => .of_below hB⟩
theorem LgAt.lt {w : World} {base p : Nat} {s : Lg} (h : LgAt w base p s) : base ≤ p ∧ p < w.heap.size := by
  obtain ⟨_, _, _, _, _, _, _, hp, hbp, _⟩ := h
  exact ⟨hbp, (Array.getElem?_eq_some_iff.1 hp).1⟩
theorem LgAt.b {w w' : World} {base p : Nat} {s : Lg} (h : LgAt w base p s) (hB : Below w.heap.size w w') : LgAt w' base p s := by
  have hl := h.lt
  exact h.of (FrL.b hB (by omega)) (.of_below hB) ⟨rfl, rfl, rfl, rfl, rfl, rfl, rfl⟩ (fun _ _ _ _ _ _ _ hq => (hB.block p hl.2).trans hq)
theorem isR_nil (w : World) : IsR w zsV [] := ⟨none, 0, rfl, .inl rfl⟩
theorem put1 {w : World} {base p : Nat} {s : Lg} {o : Opx} (h : LgAt w base p s) (hok : LgOk s) (hk : OpsOk [o]) (hE : Env w) (hr : o.nd.rv = zsV ∧ o.nd.rc = []) (hz : s.bs.length + (recL (encE0 [o])).length ≤ 1000000000) {W : World} (hB : Below w.heap.size w W) {g : Nat} (hg : W.heap[g]? = some (.cells o.cells.toArray 48 (0, 0))) :
    Calls Tryz.prog 6 #[.pointer (some ⟨p, 0, none⟩), .slice (some ⟨g, 0, none⟩) 1 1] W fun e w' => e = .returned (errV (putS s [o]).1) ∧ LgAt w' base p (putS s [o]).2 ∧ FrL base w w' := by
  have hl := h.lt
  refine (lput_at (O := [o]) (h.b hB) hok ⟨_, 1, rfl, Nat.le_refl _, .inr ⟨g, 0, rfl, (Array.getElem?_eq_some_iff.1 hg).1, fun k x hx => ?_⟩⟩ hk (hE.on (hB.mono hE.sz)) hz).mono ?_
  · have hk0 : k = 0 := by have := (List.getElem?_eq_some_iff.1 hx).1; simp only [List.length_singleton] at this; omega
    subst hk0
    obtain rfl : o = x := by simpa using hx
    refine ⟨fun i u hu => ?_, by rw [hr.1, hr.2]; exact isR_nil W⟩
    have : (0 + 0 * 11 + i) = i := by omega
    rw [this]
    exact cell_at hg (by rw [List.getElem?_toArray]; exact hu)
  · rintro e w' ⟨he, h1, h2⟩
    exact ⟨he, h1, (FrL.b hB (by omega)).trans h2⟩
theorem ok_drop : OpsOk [drO] where
  z := fun o ho => by
    obtain rfl : o = drO := by simpa using ho
    exact ⟨⟨Nat.zero_le _, fun p hp => (by cases hp), Nat.zero_le _⟩, ⟨Nat.zero_le _, Nat.zero_le _⟩, Nat.zero_le _, .inr rfl⟩
  i := fun o ho => by
    obtain rfl : o = drO := by simpa using ho
    exact ⟨⟨by show (1 : Int) ≤ 2; decide, by show (2 : Int) ≤ 6; decide⟩, fun h => absurd h (by show ¬ (2 : Int) = 1; decide), fun _ => ⟨by show -9223372036854775808 ≤ (999 : Int); decide, by show (999 : Int) ≤ 9223372036854775807; decide⟩, fun h => absurd h (by show ¬ (2 : Int) = 3; decide), fun h => by (rcases h with h | h <;> exact absurd h (by show ¬ (2 : Int) = _; decide))⟩
  l := by show 1 ≤ 40; decide
theorem ok_add {k : Nat} (hk : k < 21) : OpsOk [addO zsV k] where
  z := fun o ho => by
    obtain rfl : o = addO zsV k := by simpa using ho
    exact ⟨⟨by show 1 ≤ maxLen; decide, fun p hp => (by cases hp), Nat.zero_le _⟩, ⟨Nat.zero_le _, Nat.zero_le _⟩, Nat.zero_le _, .inl rfl⟩
  i := (rec_add hk).i
  l := by show 1 ≤ 40; decide
theorem drop_len : (recL (encE0 [drO])).length ≤ 60 := by decide +kernel
def StI (w0 : World) (p f i : Nat) (w : World) : Prop := ∃ s, LgAt w w0.heap.size p s ∧ FrL w0.heap.size w0 w ∧ Inv f i s ∧ (s.st = false → s.N = ndsA i) ∧ s.bs.length ≤ 60 * i
def StJ (w0 : World) (p f i : Nat) (w : World) : Prop := ∃ s, LgAt w w0.heap.size p s ∧ FrL w0.heap.size w0 w ∧ Inv f i s ∧ s.bs.length ≤ 1200
theorem StI.b {w0 : World} {p f i : Nat} {w w' : World} (h : StI w0 p f i w) (hB : Below w.heap.size w w') : StI w0 p f i w' := by
  obtain ⟨s, h1, h2, h3⟩ := h
  exact ⟨s, h1.b hB, h2.trans (.b hB h2.1.size), h3⟩
theorem StJ.b {w0 : World} {p f i : Nat} {w w' : World} (h : StJ w0 p f i w) (hB : Below w.heap.size w w') : StJ w0 p f i w' := by
  obtain ⟨s, h1, h2, h3⟩ := h
  exact ⟨s, h1.b hB, h2.trans (.b hB h2.1.size), h3⟩
theorem StI.j {w0 : World} {p f i : Nat} {w : World} (h : StI w0 p f i w) (hi : i ≤ 20) : StJ w0 p f i w := by
  obtain ⟨s, h1, h2, h3, _, h5⟩ := h
  exact ⟨s, h1, h2, h3, by omega⟩
theorem StI.hnd {w0 : World} {p f i : Nat} {w : World} (h : StI w0 p f i w) (hE : Env w0) (hH : Hnd w0) : Hnd w := by
  obtain ⟨s, _, h2, _⟩ := h
  exact hH.onB hE.sz (h2.1.mono hE.sz)
theorem StJ.hnd {w0 : World} {p f i : Nat} {w : World} (h : StJ w0 p f i w) (hE : Env w0) (hH : Hnd w0) : Hnd w := by
  obtain ⟨s, _, h2, _⟩ := h
  exact hH.onB hE.sz (h2.1.mono hE.sz)
theorem st_new {w : World} {W : World} (hB : Below w.heap.size w W) {g : Nat} (hg : W.heap[g]? = some (.cells #[.string aN, zsV, zsV] 30 (0, 0))) :
    Calls Tryz.prog 4 #[.agg #[.slice (some ⟨g, 0, none⟩) 1 1, zsV]] W fun e w' => ∃ q, e = .returned (.tuple #[.pointer (some ⟨q, 0, none⟩), .nilIface]) ∧ LgAt w' w.heap.size q (newS LA []) ∧ FrL w.heap.size w w' := by
  have hk : kA zsV zsV ∈ [kA zsV zsV] := List.mem_singleton.2 rfl
  have hsc : IsSc W (.agg #[.slice (some ⟨g, 0, none⟩) 1 1, zsV]) [kA zsV zsV] [] := by
    refine ⟨_, _, rfl, .inr ⟨g, 0, 1, rfl, Nat.le_refl _, by unfold maxLen; omega, (Array.getElem?_eq_some_iff.1 hg).1, fun i k hk => ?_⟩, fun k hk => ?_, fun k hk => ?_, .inl ⟨rfl, rfl⟩, fun x hx => by cases hx⟩
    · have hi : i = 0 := by have := (List.getElem?_eq_some_iff.1 hk).1; simp only [List.length_singleton] at this; omega
      subst hi
      obtain rfl : kA zsV zsV = k := by simpa using hk
      exact ⟨cell_at hg rfl, cell_at hg rfl, cell_at hg rfl⟩
    · obtain rfl := List.mem_singleton.1 hk
      exact ⟨own_isS (World.ownsRow_nil W 0 9 1), own_isF (World.ownsRow_nil W 0 56 4)⟩
    · obtain rfl := List.mem_singleton.1 hk
      exact ⟨by decide, fun f hf => by cases hf⟩
  refine (newlog_at (base := w.heap.size) hsc (by decide +kernel) ⟨by decide, by decide, fun k hk => by (obtain rfl := List.mem_singleton.1 hk); exact ⟨by decide, by decide⟩⟩ hB.size).mono ?_
  rintro e w' ⟨q, rfl, ⟨vk0, vb0, vk, vb, vn, vt, vy, h1, h2, h3, h4, h5, h6⟩, hF⟩
  exact ⟨q, rfl, ⟨vk0, vb0, vk, vb, vn, vt, vy, h1, h2, h3.kq rfl, h4.kq rfl, h5, h6⟩, (FrL.b hB (Nat.le_refl _)).trans hF⟩
theorem st_fail {w0 : World} {q : Nat} {w : World} (h : LgAt w w0.heap.size q (newS LA [])) (hF : FrL w0.heap.size w0 w) (f : Nat) {W : World} (hB : Below w.heap.size w W) :
    Calls Tryz.prog 5 #[.pointer (some ⟨q, 0, none⟩), .int .i64 f] W fun e w' => e = .returned (.tuple #[]) ∧ StI w0 q f 0 w' := by
  refine (fail_at (h.b hB) f).mono ?_
  rintro e w' ⟨he, h1, h2⟩
  exact ⟨he, _, h1, (hF.trans (.b hB hF.1.size)).trans h2, inv_new f, fun _ => rfl, Nat.zero_le _⟩
theorem st_drop {w0 : World} {p f i : Nat} {w : World} (h : StI w0 p f i w) (hf : f ≤ 20) (hi : i ≤ 20) (hE : Env w0) {W : World} (hB : Below w.heap.size w W) {g : Nat} (hg : W.heap[g]? = some (.cells #[.int .i64 2, .int .i64 999, .string ⟨#[]⟩, .slice none 0 0, .string ⟨#[]⟩, .int .i64 0, .int .i64 0, .string ⟨#[]⟩, .string ⟨#[]⟩, .int .i64 0, .int .i64 0] 48 (0, 0))) :
    Calls Tryz.prog 6 #[.pointer (some ⟨p, 0, none⟩), .slice (some ⟨g, 0, none⟩) 1 1] W fun e w' => e = .returned (errV (if i ≤ f then 5 else 6)) ∧ StI w0 p f i w' := by
  obtain ⟨s, h1, h2, h3, h4, h5⟩ := h
  refine (put1 (o := drO) h1 (h3.ok hf) ok_drop (hE.on (h2.1.mono hE.sz)) ⟨rfl, rfl⟩ (by have := drop_len; omega) hB hg).mono ?_
  rintro e w' ⟨he, k1, k2⟩
  rw [put_drop h3] at he k1
  exact ⟨he, s, k1, h2.trans k2, h3, h4, h5⟩
theorem st_add {w0 : World} {p f i : Nat} {w : World} (h : StI w0 p f i w) (hf : f ≤ 20) (hi : i < 20) (hE : Env w0) {W : World} (hB : Below w.heap.size w W) {g : Nat} {v : Int} (hv : v = (i : Int) + 1) (hg : W.heap[g]? = some (.cells #[.int .i64 1, .int .i64 v, .string aN, .slice none 0 0, .string ⟨#[]⟩, .int .i64 0, .int .i64 0, .string ⟨#[]⟩, .string ⟨#[]⟩, .int .i64 0, .int .i64 0] 48 (0, 0))) :
    Calls Tryz.prog 6 #[.pointer (some ⟨p, 0, none⟩), .slice (some ⟨g, 0, none⟩) 1 1] W fun e w' => e = .returned (errV (if i < f then 0 else 6)) ∧ StI w0 p f (i + 1) w' := by
  subst hv
  obtain ⟨s, h1, h2, h3, h4, h5⟩ := h
  have hrl := rec_len i (by omega)
  refine (put1 (o := addO zsV i) h1 (h3.ok hf) (ok_add (by omega)) (hE.on (h2.1.mono hE.sz)) ⟨rfl, rfl⟩ (by omega) hB hg).mono ?_
  rintro e w' ⟨he, k1, k2⟩
  obtain ⟨q1, q2, q3⟩ := put_add h3 hi h4
  rw [q1] at he
  refine ⟨he, _, k1, h2.trans k2, q2, q3, ?_⟩
  unfold putS stepS
  split
  · show s.bs.length ≤ _
    omega
  · split
    · show s.bs.length ≤ _
      omega
    · split
      · show (s.bs ++ _ : List UInt8).length ≤ _
        rw [List.length_append, List.length_take]; omega
      · show (s.bs ++ _ : List UInt8).length ≤ _
        rw [List.length_append]; omega
theorem st_sync {w0 : World} {p f i : Nat} {w : World} (h : StJ w0 p f i w) (hf : f ≤ 20) {W : World} (hB : Below w.heap.size w W) :
    Calls Tryz.prog 8 #[.pointer (some ⟨p, 0, none⟩)] W fun e w' => e = .returned (errV (if i < f then 0 else 6)) ∧ StJ w0 p f (i + 1) w' := by
  obtain ⟨s, h1, h2, h3, h5⟩ := h
  refine (sync_at (h1.b hB) (h3.ok hf) (by omega)).mono ?_
  rintro e w' ⟨he, k1, k2⟩
  obtain ⟨q1, q2⟩ := sync_inv h3
  rw [q1] at he
  refine ⟨he, _, k1, (h2.trans (.b hB h2.1.size)).trans k2, q2, ?_⟩
  unfold syncS
  split
  · exact h5
  · split <;> exact h5
abbrev rB : List UInt8 := recL (wrE1 chB.kd)
theorem rB_len : 2 ≤ rB.length ∧ rB.length ≤ 60 := by decide +kernel
theorem chB_sz : ChSz chB := ⟨⟨by decide, fun f hf => by cases hf⟩, ⟨by decide, by decide⟩, by decide, by decide, by decide, by decide, rfl⟩
theorem wr_chB {w : World} (hE : Env w) : ∀ W, Below w.heap.size w W → Calls Tryz.prog 21 #[.agg (csA chB)] W fun e w' => ∃ v, e = .returned v ∧ w'.ownsRow W.heap.size 5 1 v rB.length (Lib.byteCells rB) ∧ Below W.heap.size W w' := fun W hB =>
  wr_kind rfl (en1_csA chB).c2 rfl (chB_is W) (fun f hf => by cases hf) (by have h : (recL (wrE1 chB.kd)).length ≤ 60 := rB_len.2; omega) (hE.on (hB.mono hE.sz))
theorem st_alt {w0 : World} {p f i : Nat} {w : World} (h : StJ w0 p f i w) (hf : f ≤ 20) (hi : f < i) (hE : Env w0) {W : World} (hB : Below w.heap.size w W) :
    Calls Tryz.prog 9 #[.pointer (some ⟨p, 0, none⟩), chB.one] W fun e w' => e = .returned (errV 6) ∧ StJ w0 p f i w' := by
  obtain ⟨s, h1, h2, h3, h5⟩ := h
  have hEW : Env W := hE.on ((h2.trans (.b hB h2.1.size)).1.mono hE.sz)
  refine (alter_at (r := rB) (h1.b hB) (h3.ok hf) (chB_is W) chB_sz rB_len.1 (by have := rB_len.2; omega) fun _ => wr_chB hEW).mono ?_
  rintro e w' ⟨he, k1, k2⟩
  have hst : s.st = true := by rcases h3.go with ⟨_, h, _⟩ | ⟨h, _⟩; (· omega); (· exact h)
  have e1 : altS s chB rB = (6, s) := by unfold altS stepS; rw [hst, if_pos rfl]
  rw [e1] at he k1
  exact ⟨he, s, k1, (h2.trans (.b hB h2.1.size)).trans k2, h3, h5⟩
def StC (w0 : World) (p f : Nat) (w : World) : Prop := ∃ i s j, LgAt w w0.heap.size p (sC s j) ∧ FrL w0.heap.size w0 w ∧ Inv f i s ∧ j ≤ 20
theorem st_crash {w0 : World} {p f i : Nat} {w : World} (h : StJ w0 p f i w) (hf : f ≤ 20) (hE : Env w0) (k : Int) {W : World} (hB : Below w.heap.size w W) :
    Calls Tryz.prog 10 #[.pointer (some ⟨p, 0, none⟩), .int .i64 k] W fun e w' => e = .returned (.tuple #[]) ∧ StC w0 p f w' := by
  obtain ⟨s, h1, h2, h3, h5⟩ := h
  have hEW : Env W := hE.on ((h2.trans (.b hB h2.1.size)).1.mono hE.sz)
  obtain ⟨j, tl, c1, c2, c3, c4⟩ := crash_inv h3 k
  refine (crash_at (h1.b hB) (h3.ok hf) hEW h3.z.1 h3.z.2 (by omega) c2 c3 c4).mono ?_
  rintro e w' ⟨he, k1, k2⟩
  exact ⟨he, i, s, j, k1, (h2.trans (.b hB h2.1.size)).trans k2, h3, c1⟩
def StD (w0 : World) (p : Nat) (w : World) : Prop := ∃ s, LgAt w w0.heap.size p s ∧ FrL w0.heap.size w0 w ∧ LgOk s ∧ Sm s.L s.B ∧ s.L.length = 2 ∧ (syncS s).1 = 0 ∧ s.bs.length ≤ 1300
theorem StC.b {w0 : World} {p f : Nat} {w w' : World} (h : StC w0 p f w) (hB : Below w.heap.size w w') : StC w0 p f w' := by
  obtain ⟨i, s, j, h1, h2, h3⟩ := h
  exact ⟨i, s, j, h1.b hB, h2.trans (.b hB h2.1.size), h3⟩
theorem StD.b {w0 : World} {p : Nat} {w w' : World} (h : StD w0 p w) (hB : Below w.heap.size w w') : StD w0 p w' := by
  obtain ⟨s, h1, h2, h3⟩ := h
  exact ⟨s, h1.b hB, h2.trans (.b hB h2.1.size), h3⟩
theorem st_altc {w0 : World} {p f : Nat} {w : World} (h : StC w0 p f w) (hf : f ≤ 20) (hE : Env w0) {W : World} (hB : Below w.heap.size w W) :
    Calls Tryz.prog 9 #[.pointer (some ⟨p, 0, none⟩), chB.one] W fun e w' => e = .returned .nilIface ∧ StD w0 p w' := by
  obtain ⟨i, s, j, h1, h2, h3, h4⟩ := h
  have hEW : Env W := hE.on ((h2.trans (.b hB h2.1.size)).1.mono hE.sz)
  have hl : (rcs (opsA j)).length ≤ 1200 := by have := rcs_len j (by omega); omega
  have hbl : (sC s j).bs.length ≤ 1200 := by rw [sC_eq h3 h4]; exact hl
  refine (alter_at (r := rB) (h1.b hB) (sC_ok h3 hf h4) (chB_is W) chB_sz rB_len.1 (by have := rB_len.2; omega) fun _ => wr_chB hEW).mono ?_
  rintro e w' ⟨he, k1, k2⟩
  obtain ⟨q1, q2, q3, q4⟩ := alt_chB h3 h4 rB
  obtain ⟨o1, o2⟩ := alt_ok h3 hf h4 rB
  rw [q1, errV_0] at he
  exact ⟨he, _, k1, (h2.trans (.b hB h2.1.size)).trans k2, o1, o2, q2, q3, by rw [q4, List.length_append]; have := rB_len.2; omega⟩
theorem st_sync2 {w0 : World} {p : Nat} {w : World} (h : StD w0 p w) {W : World} (hB : Below w.heap.size w W) :
    Calls Tryz.prog 8 #[.pointer (some ⟨p, 0, none⟩)] W fun e w' => e = .returned .nilIface ∧ ∃ s, LgAt w' w0.heap.size p s ∧ FrL w0.heap.size w0 w' ∧ Sm s.L s.B ∧ s.L.length = 2 := by
  obtain ⟨s, h1, h2, h3, h4, h5, h6, h7⟩ := h
  refine (sync_at (h1.b hB) h3 (by omega)).mono ?_
  rintro e w' ⟨he, k1, k2⟩
  rw [h6, errV_0] at he
  have e1 : (syncS s).2.L = s.L ∧ (syncS s).2.B = s.B := by
    unfold syncS
    split
    · exact ⟨rfl, rfl⟩
    · split <;> exact ⟨rfl, rfl⟩
  exact ⟨he, _, k1, (h2.trans (.b hB h2.1.size)).trans k2, by rw [e1.1, e1.2]; exact h4, by rw [e1.1]; exact h5⟩
end Go.Proofs.YtahamkajkkkjdaaGreatDoor
