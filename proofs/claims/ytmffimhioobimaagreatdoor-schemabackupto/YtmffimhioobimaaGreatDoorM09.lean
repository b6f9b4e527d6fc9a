/-
  Mathematics of a schema's text: what a right schema's words are, how long its lines are, and how many of them there are.
-/
import Derived.Test.YtmffimhioobimaaGreatDoorM08
namespace Go.Proofs.YtmffimhioobimaaGreatDoor
open Go.RowKit
set_option linter.unusedVariables false
set_option linter.unusedSimpArgs false

theorem fBad_zero {o : Option Fd} {f : Fd} (h : fBad o f = 0) : nErr f.nm = 0 ∧ (f.t = 1 ∨ f.t = 2 ∨ f.t = 3) := by
  unfold fBad at h
  split at h
  · rename_i h1
    split at h
    · rename_i h2; exact ⟨h1, h2⟩
    · exact absurd h (by decide)
  · rename_i h1; exact absurd h h1
theorem fChk_all (fs : List Fd) : ∀ o, fChk o fs = 0 → ∀ f ∈ fs, nErr f.nm = 0 ∧ (f.t = 1 ∨ f.t = 2 ∨ f.t = 3) := by
  induction fs with
  | nil => intro o _ f hf; simp at hf
  | cons g r ih =>
    intro o h f hf
    by_cases h0 : fBad o g = 0
    · rw [fChk_step h0] at h
      rcases List.mem_cons.1 hf with rfl | hf
      · exact fBad_zero h0
      · exact ih _ h f hf
    · rw [fChk_stop h0] at h; exact absurd h h0
theorem good_name {L : List Kd} (h : Good L) {k : Kd} (hk : k ∈ L) : nErr k.nm = 0 := by
  obtain ⟨i, hi⟩ := List.mem_iff_getElem?.1 hk
  exact (kErr_zero (h i k hi)).1
theorem good_of {L : List Kd} (h : Good L) {k : Kd} (hk : k ∈ L) : ∀ n ∈ k.of, nErr n = 0 := fun n hn => by
  obtain ⟨i, hi⟩ := List.mem_iff_getElem?.1 hk
  obtain ⟨x, hx, rfl⟩ := oChk_zero _ _ _ (kErr_zero (h i k hi)).2.2.2.1 n hn
  exact good_name h (List.mem_of_mem_take hx)
theorem good_fs {L : List Kd} (h : Good L) {k : Kd} (hk : k ∈ L) : ∀ f ∈ k.fs, nErr f.nm = 0 ∧ (f.t = 1 ∨ f.t = 2 ∨ f.t = 3) := by
  obtain ⟨i, hi⟩ := List.mem_iff_getElem?.1 hk
  exact fChk_all _ _ (kErr_zero (h i k hi)).2.2.2.2.1
theorem good_ok {L : List Kd} (h : Good L) {k : Kd} (hk : k ∈ L) : KOk k :=
  ⟨(h.small k hk).1, (h.small k hk).2, fun n hn => name_len (good_of h hk n hn), fun f hf => ⟨name_len (good_fs h hk f hf).1, (good_fs h hk f hf).2⟩⟩
theorem tyW_len (t : Int) : (tyW t).length ≤ 4 := by
  unfold tyW
  split
  · decide
  · split
    · decide
    · split <;> decide
theorem fText_len (f : Fd) (h : f.nm.length ≤ 8) : (fText f).length ≤ 14 := by
  have h1 := tyW_len f.t
  have h2 : (if f.key = true then [42] else if f.must = true then [33] else ([] : Nm)).length ≤ 1 := by
    split
    · decide
    · split <;> decide
  unfold fText
  simp only [List.length_append, List.length_cons, List.length_nil]
  omega
theorem kWords_len (k : Kd) (h : KOk k) (hn : k.nm.length ≤ 8) : 0 < (kWords k).length ∧ (kWords k).length ≤ 12 ∧ ∀ x ∈ kWords k, x.length ≤ 36 := by
  have h1 := h.of4
  have h2 := h.fs8
  have h3 := join_len k.of [44] 8 h.nms
  simp only [List.length_cons, List.length_nil] at h3
  unfold kWords
  refine ⟨by simp, ?_, ?_⟩
  · by_cases e : k.of = [] <;> simp [e] <;> omega
  · intro x hx
    rw [List.mem_append, List.mem_append] at hx
    rcases hx with (hx | hx) | hx
    · rcases List.mem_cons.1 hx with rfl | hx
      · decide
      · have : x = k.nm := by simpa using hx
        rw [this]; omega
    · by_cases e : k.of = []
      · rw [if_pos e] at hx; simp at hx
      · rw [if_neg e] at hx
        rcases List.mem_cons.1 hx with rfl | hx
        · decide
        · have : x = Lib.join k.of [44] := by simpa using hx
          rw [this]; omega
    · obtain ⟨f, hf, rfl⟩ := List.mem_map.1 hx
      have := fText_len f (h.fds f hf).1
      omega
theorem kLine_len (k : Kd) (h : KOk k) (hn : k.nm.length ≤ 8) : (Lib.join (kWords k) [32]).length ≤ 444 := by
  obtain ⟨_, h1, h2⟩ := kWords_len k h hn
  have := join_len (kWords k) [32] 36 h2
  simp only [List.length_cons, List.length_nil] at this
  omega
/-- What a bond must have. -/
structure BOk (x : Bd) : Prop where
  nm : nErr x.nm = 0
  fr : nErr x.fr = 0
  tt : nErr x.tt = 0
  rg : inR x.mn x.mx = true
theorem good_bond {L : List Kd} {B : List Bd} (h : Good L) (hb : GoodB L B) {x : Bd} (hx : x ∈ B) : BOk x := by
  obtain ⟨i, hi⟩ := List.mem_iff_getElem?.1 hx
  obtain ⟨h1, _, h3, h4, h5⟩ := bErr_zero (hb i x hi)
  obtain ⟨k1, hk1, e1⟩ := hasK_iff.1 h3
  obtain ⟨k2, hk2, e2⟩ := hasK_iff.1 h4
  exact ⟨h1, by rw [← e1]; exact good_name h hk1, by rw [← e2]; exact good_name h hk2, h5⟩
theorem bWords_len (x : Bd) (h : BOk x) : ∀ y ∈ bWords x, y.length ≤ 21 := by
  obtain ⟨r1, r2, r3⟩ := inR_iff.1 h.rg
  have l1 := name_len h.nm
  have l2 := name_len h.fr
  have l3 := name_len h.tt
  have l4 := Lib.itoa_length_le x.mn (by omega) (by omega)
  have l5 : (mxW x.mx).length ≤ 21 := by
    unfold mxW
    split
    · decide
    · exact Lib.itoa_length_le x.mx (by omega) (by omega)
  intro y hy
  unfold bWords at hy
  simp only [List.mem_cons, List.not_mem_nil, or_false] at hy
  rcases hy with rfl | rfl | rfl | rfl | rfl | rfl
  · decide
  · omega
  · omega
  · omega
  · exact l4
  · exact l5
theorem bLine_len (x : Bd) (h : BOk x) : (Lib.join (bWords x) [32]).length ≤ 132 := by
  have := join_len (bWords x) [32] 21 (bWords_len x h)
  simp only [List.length_cons, List.length_nil, show (bWords x).length = 6 from rfl] at this
  omega
theorem lines_len {α : Type} (f : α → List Nm) (m : Nat) (l : List α) (h : ∀ x ∈ l, (Lib.join (f x) [32]).length ≤ m) : (l.flatMap fun x => lineL (f x)).length ≤ (m + 1) * l.length := by
  induction l with
  | nil => simp
  | cons a r ih =>
    have h1 := h a (by simp)
    have h2 := ih (fun x hx => h x (by simp [hx]))
    have h3 : (lineL (f a)).length = (Lib.join (f a) [32]).length + 1 := by unfold lineL; simp
    simp only [List.flatMap_cons, List.length_append, List.length_cons] at h2 ⊢
    rw [Nat.mul_add, Nat.mul_one]
    omega
theorem kText_take {L : List Kd} {i : Nat} {k : Kd} (h : L[i]? = some k) : kText (L.take (i + 1)) = kText (L.take i) ++ lineL (kWords k) := by
  unfold kText; rw [takeK h]; simp
theorem bText_take {B : List Bd} {i : Nat} {x : Bd} (h : B[i]? = some x) : bText (B.take (i + 1)) = bText (B.take i) ++ lineL (bWords x) := by
  unfold bText; rw [takeK h]; simp
/-- How many lines end. -/
def nl (l : Nm) : Nat := l.countP (· == 10)
theorem nl_app (a b : Nm) : nl (a ++ b) = nl a + nl b := List.countP_append
theorem nl_zero {l : Nm} (h : ∀ c ∈ l, ¬ c = 10) : nl l = 0 := by
  unfold nl; rw [List.countP_eq_zero]; intro c hc; simpa using h c hc
theorem join_mem (ws : List Nm) (sp : Nm) : ∀ c ∈ Lib.join ws sp, c ∈ sp ∨ ∃ x ∈ ws, c ∈ x := by
  unfold Lib.join
  induction ws with
  | nil => intro c hc; simp at hc
  | cons a r ih =>
    intro c hc
    cases r with
    | nil => right; exact ⟨a, by simp, by simpa using hc⟩
    | cons b r =>
      rw [List.intercalate_cons_cons] at hc
      rcases List.mem_append.1 hc with hc | hc
      · rcases List.mem_append.1 hc with hc | hc
        · right; exact ⟨a, by simp, hc⟩
        · exact .inl hc
      · rcases ih c hc with h | ⟨x, hx, hc⟩
        · exact .inl h
        · right; exact ⟨x, by simp [List.mem_cons.1 hx], hc⟩
theorem line_nl (ws : List Nm) (h : ∀ x ∈ ws, ∀ c ∈ x, ¬ c = 10) : nl (lineL ws) = 1 := by
  unfold lineL
  rw [nl_app, nl_zero]
  · rfl
  · intro c hc
    rcases join_mem ws [32] c hc with h1 | ⟨x, hx, h1⟩
    · have : c = 32 := by simpa using h1
      rw [this]; decide
    · exact h x hx c h1
theorem lines_nl {α : Type} (f : α → List Nm) (l : List α) (h : ∀ x ∈ l, nl (lineL (f x)) = 1) : nl (l.flatMap fun x => lineL (f x)) = l.length := by
  induction l with
  | nil => rfl
  | cons a r ih =>
    rw [List.flatMap_cons, nl_app, h a (by simp), ih (fun x hx => h x (by simp [hx])), List.length_cons]
    omega
theorem name_nl {l : Nm} (h : nErr l = 0) : ∀ c ∈ l, ¬ c = 10 := by
  unfold nErr at h
  split at h
  · exact absurd h (by decide)
  · split at h
    · exact absurd h (by decide)
    · split at h
      · exact absurd h (by decide)
      · rename_i h3
        intro c hc e
        apply h3
        unfold hasP
        rw [List.any_eq_true]
        exact ⟨c, hc, by rw [e]; decide⟩
theorem dec_nl (n : Nat) (h : n < 100) : ∀ c ∈ Lib.decDigits n, ¬ c = 10 := by
  have h1 : ((List.range 100).all fun n => (Lib.decDigits n).all (· != 10)) = true := by kernel_rfl
  have := List.all_eq_true.1 (List.all_eq_true.1 h1 n (List.mem_range.2 h))
  intro c hc
  simpa using this c hc
theorem itoa_nl (n : Int) (h : 0 ≤ n) (h2 : n ≤ 20) : ∀ c ∈ Lib.itoa n, ¬ c = 10 := by
  obtain ⟨i, rfl⟩ : ∃ i : Nat, n = (i : Int) := ⟨n.toNat, by omega⟩
  rw [itoa_nat]; exact dec_nl i (by omega)
theorem k_nl {L : List Kd} (h : Good L) {k : Kd} (hk : k ∈ L) : nl (lineL (kWords k)) = 1 := by
  refine line_nl _ fun x hx => ?_
  unfold kWords at hx
  rw [List.mem_append, List.mem_append] at hx
  rcases hx with (hx | hx) | hx
  · rcases List.mem_cons.1 hx with rfl | hx
    · decide
    · have : x = k.nm := by simpa using hx
      rw [this]; exact name_nl (good_name h hk)
  · by_cases e : k.of = []
    · rw [if_pos e] at hx; simp at hx
    · rw [if_neg e] at hx
      rcases List.mem_cons.1 hx with rfl | hx
      · decide
      · have : x = Lib.join k.of [44] := by simpa using hx
        rw [this]
        intro c hc
        rcases join_mem _ _ c hc with h1 | ⟨n, hn, h1⟩
        · have : c = 44 := by simpa using h1
          rw [this]; decide
        · exact name_nl (good_of h hk n hn) c h1
  · obtain ⟨f, hf, rfl⟩ := List.mem_map.1 hx
    obtain ⟨h1, h2⟩ := good_fs h hk f hf
    unfold fText
    intro c hc
    rw [List.mem_append, List.mem_append, List.mem_append] at hc
    rcases hc with ((hc | hc) | hc) | hc
    · exact name_nl h1 c hc
    · have : c = 58 := by simpa using hc
      rw [this]; decide
    · have : ∀ t : Int, (t = 1 ∨ t = 2 ∨ t = 3) → ∀ c ∈ tyW t, ¬ c = 10 := by
        rintro t (rfl | rfl | rfl) <;> decide
      exact this _ h2 c hc
    · split at hc
      · have : c = 42 := by simpa using hc
        rw [this]; decide
      · split at hc
        · have : c = 33 := by simpa using hc
          rw [this]; decide
        · simp at hc
theorem b_nl {x : Bd} (h : BOk x) : nl (lineL (bWords x)) = 1 := by
  refine line_nl _ fun y hy => ?_
  obtain ⟨r1, r2, r3⟩ := inR_iff.1 h.rg
  unfold bWords at hy
  simp only [List.mem_cons, List.not_mem_nil, or_false] at hy
  rcases hy with rfl | rfl | rfl | rfl | rfl | rfl
  · decide
  · exact name_nl h.nm
  · exact name_nl h.fr
  · exact name_nl h.tt
  · exact itoa_nl _ (by omega) (by omega)
  · unfold mxW
    split
    · decide
    · exact itoa_nl _ (by omega) (by omega)
theorem text_nl {L : List Kd} {B : List Bd} (h : (sErr L B).2 = 0) : nl (sText L B) = L.length + B.length := by
  obtain ⟨h1, h2, _⟩ := sErr_good.1 h
  have hG := (ksErr_good.1 h1).1
  unfold sText kText bText
  rw [nl_app, lines_nl _ _ (fun k hk => k_nl hG hk), lines_nl _ _ (fun x hx => b_nl (good_bond hG h2 hx))]
end Go.Proofs.YtmffimhioobimaaGreatDoor

/-
  The walk of schema.Print.
-/
namespace Go.Proofs.YtmffimhioobimaaGreatDoor
open Go.RowKit
set_option linter.unusedVariables false
set_option linter.unusedSimpArgs false

/-- A builder stays what it is where nothing old turns. -/
theorem bld_on {B b : Nat} {xs : List Value} {w w' : World} (h : Lib.IsBuilderF 67 5 B b xs w) (hB : Below w.heap.size w w') : Lib.IsBuilderF 67 5 B b xs w' := by
  have hg : w.grownBy w' none := ⟨hB.os, hB.tape, hB.output, hB.size, fun k hk _ => hB.block k hk⟩
  have step : ∀ {p}, Lib.BuilderAtF 67 5 B b p xs w → Lib.BuilderAtF 67 5 B b p xs w' := fun {p} h => by
    have hlt := h.lt
    obtain ⟨h1, v, h2, h3, h4⟩ := h
    exact ⟨h1, v, (hB.block b hlt).trans h2, h3.kept hg (Classical.em _), h4⟩
  rcases h with h | h
  · exact .inl (step h)
  · exact .inr (step h)
theorem bytes_app (a b : Nm) : Lib.byteCells (a ++ b) = Lib.byteCells a ++ Lib.strCells (bs b) := by
  rw [Lib.strCells_eq, bs_data]; simp [Lib.byteCells]
theorem isK_view {w : World} {v : Value} {l : List Kd} (h : IsK w v l) : ∃ ao c, v = .slice ao l.length c ∧ l.length ≤ maxLen ∧ ∀ (j : Nat) g, l[j]? = some g → ∃ b o, ao = some ⟨b, o, none⟩ ∧ b < w.heap.size ∧ LiesK w b o l := by
  rcases h with ⟨rfl, rfl⟩ | ⟨b, off, cap, rfl, h1, h2, hb, hl⟩
  · exact ⟨none, 0, rfl, by unfold maxLen; simp, fun j g hg => by simp at hg⟩
  · exact ⟨_, _, rfl, by omega, fun j g hg => ⟨b, off, rfl, hb, hl⟩⟩
/-- Between two rounds over the kinds; over the bonds. -/
def P1 (w1 : World) (L : List Kd) (s : Value) (wr : World) : Prop :=
  ∃ m : Nat, m ≤ L.length ∧ s = .int .i64 m ∧ Lib.IsBuilderF 67 5 w1.heap.size w1.heap.size (Lib.byteCells (kText (L.take m))) wr ∧ Below w1.heap.size w1 wr
def P2 (w1 : World) (L : List Kd) (B : List Bd) (s : Value) (wr : World) : Prop :=
  ∃ m : Nat, m ≤ B.length ∧ s = .int .i64 m ∧ Lib.IsBuilderF 67 5 w1.heap.size w1.heap.size (Lib.byteCells (kText L ++ bText (B.take m))) wr ∧ Below w1.heap.size w1 wr

set_option maxHeartbeats 8000000 in
set_option maxRecDepth 100000 in
theorem sprint_ok {vk vb : Value} {L : List Kd} {B : List Bd} {w : World} (hK : IsK w vk L) (hP : Parts w L) (hz : SzK L) (hb : IsB w vb B) (hzb : SzB B) (hT : TW w) (he : (sErr L B).2 = 0) :
    Calls Tryz.prog 9 #[.agg #[vk, vb]] w fun e w' => e = .returned (.tuple #[.string (bs (sText L B)), .nilIface]) ∧ Below w.heap.size w w' := by
  obtain ⟨hks, hGB, hB12⟩ := sErr_good.1 he
  obtain ⟨hG, hL12⟩ := ksErr_good.1 hks
  obtain ⟨ak, ck, evk, hkl, hvk⟩ := isK_view hK
  obtain ⟨ab, cb, evb, _, _, hvb⟩ := isB_view hb
  subst evk
  subst evb
  have hB0 : Below w.heap.size w (w.alloc (.cells #[.slice ak L.length ck, .slice ab B.length cb] 25)) := b_alloc (Below.refl _ _) (Nat.le_refl _) _
  have cs := scheck_any (hK.on hB0) (hP.on hB0) hz (hb.on hB0) hzb
  rw [he, errV_0] at cs
  have HH : Hid (Parts w L ∧ Good L ∧ GoodB L B ∧ TW w ∧ (∀ (j : Nat) g, L[j]? = some g → ∃ b o, ak = some ⟨b, o, none⟩ ∧ b < w.heap.size ∧ LiesK w b o L) ∧ (∀ (j : Nat) g, B[j]? = some g → ∃ b o, ab = some ⟨b, o, none⟩ ∧ b < w.heap.size ∧ LiesB w b o B)) := ⟨hP, hG, hGB, hT, hvk, hvb⟩
  have HB0 : Hid (Below w.heap.size w (w.alloc (.cells #[.slice ak L.length ck, .slice ab B.length cb] 25))) := hB0
  have HKL : Hid (∀ m, (kText (L.take m)).length ≤ 445 * 12) := fun m => by
    have := lines_len kWords 444 (L.take m) (fun k hk => kLine_len k (good_ok hG (List.mem_of_mem_take hk)) (name_len (good_name hG (List.mem_of_mem_take hk))))
    have h2 := List.length_take_le m L
    have h3 : (L.take m).length ≤ 12 := by simp only [List.length_take]; omega
    unfold kText
    exact Nat.le_trans this (Nat.mul_le_mul_left _ h3)
  have HBL : Hid (∀ m, (bText (B.take m)).length ≤ 133 * 12) := fun m => by
    have := lines_len bWords 132 (B.take m) (fun x hx => bLine_len x (good_bond hG hGB (List.mem_of_mem_take hx)))
    have h3 : (B.take m).length ≤ 12 := by simp only [List.length_take]; omega
    unfold bText
    exact Nat.le_trans this (Nat.mul_le_mul_left _ h3)
  generalize (sErr L B).1 = nme at cs
  clear hK hP hz hb hzb hT he hks hGB hG hvk hvb hB0
  go_enter Tryz.func9, Tryz.ntmps9
  go_wp2_with (go_at_call 6; refine cs.mono ?_; rintro e W1 ⟨rfl, hB1⟩; refine Hid.out ?_)
  refine Lib.hid ?_
  have g0 := hB1.cell (p := ⟨w.heap.size, 0, none⟩) (by simp)
  have g1 := hB1.cell (p := ⟨w.heap.size, 1, none⟩) (by simp)
  simp at g0 g1
  have hsz1 : w.heap.size < W1.heap.size := Nat.lt_of_lt_of_le (by simp) hB1.size
  have HBw1 : Hid (Below w.heap.size w W1) := on1 HB0.out hB1 (Nat.le_refl _)
  have HST : Hid (P1 W1 L (.int .i64 0) (W1.alloc (.cells #[.pointer none, .slice none 0 0] 67))) := ⟨0, Nat.zero_le _, rfl, .of (Lib.fresh_isBuilder 67 5 W1), b_alloc (Below.refl _ _) (Nat.le_refl _) _⟩
  have hsn : ¬ w.heap.size = W1.heap.size := by omega
  clear cs hB1
  go_wp2
  go_loopw [22] (fun s wr => P1 W1 L s wr) (fun s _ => L.length - (intOf s).toNat)
  case atStart => exact HST.out
  case round =>
    obtain ⟨m, hm, rfl, hbu, hB⟩ := hrel
    have hBw := on1 HBw1.out hB (Nat.le_refl _)
    have HBU : Hid (Lib.IsBuilderF 67 5 W1.heap.size W1.heap.size (Lib.byteCells (kText (L.take m))) wr ∧ Below W1.heap.size W1 wr) := ⟨hbu, hB⟩
    have r1 := (hB.cell (p := ⟨w.heap.size, 1, none⟩) hsz1).trans g1
    clear hbu
    by_cases hlt : m < L.length
    · obtain ⟨p, hp⟩ : ∃ p, L[m]? = some p := ⟨L[m], by simp [hlt]⟩
      obtain ⟨hPp, hGp, _, hTp, hvk, _⟩ := HH.out
      obtain ⟨bk, ok, rfl, hbk, hlk⟩ := hvk m p hp
      have hpm : p ∈ L := List.mem_of_getElem? hp
      obtain ⟨c0, c1, c2⟩ := hlk m p hp
      obtain ⟨ao, co, evo, _⟩ := (hPp p hpm).1.sln
      obtain ⟨af, cf, evf, _⟩ := (hPp p hpm).2.sln
      rw [evo] at c1
      rw [evf] at c2
      have x0 := (hBw.cell (p := ⟨bk, ok + m * 3, none⟩) hbk).trans c0
      have x1 := (hBw.cell (p := ⟨bk, ok + m * 3 + 1, none⟩) hbk).trans c1
      have x2 := (hBw.cell (p := ⟨bk, ok + m * 3 + 2, none⟩) hbk).trans c2
      have hBx : Below w.heap.size w (wr.alloc (.cells #[.string (bs p.nm), .slice ao p.of.length co, .slice af p.fs.length cf] 55)) := b_alloc hBw (Nat.le_refl _) _
      have cp := printKind_any p _ ((hPp p hpm).1.on hBx) ((hPp p hpm).2.on hBx) (good_ok hGp hpm) (hTp.on hBx)
      unfold Kd.one at cp
      rw [evo, evf] at cp
      have HW : Hid ((0 < (kWords p).length ∧ (kWords p).length ≤ 12) ∧ (Lib.join (kWords p) [32]).length ≤ 444 ∧ kText (L.take (m + 1)) = kText (L.take m) ++ lineL (kWords p)) := by
        have hk := good_ok hGp hpm
        have hl := name_len (good_name hGp hpm)
        obtain ⟨w1, w2, _⟩ := kWords_len p hk hl
        exact ⟨⟨w1, w2⟩, kLine_len p hk hl, kText_take hp⟩
      have hmi : (m : Int) < (L.length : Int) := by omega
      have HBX : Hid (Below W1.heap.size W1 (wr.alloc (.cells #[.string (bs p.nm), .slice ao p.of.length co, .slice af p.fs.length cf] 55)) ∧ Lib.IsBuilderF 67 5 W1.heap.size W1.heap.size (Lib.byteCells (kText (L.take m))) (wr.alloc (.cells #[.string (bs p.nm), .slice ao p.of.length co, .slice af p.fs.length cf] 55))) := ⟨b_alloc hB (Nat.le_refl _) _, HBU.out.1.alloc _⟩
      clear hPp hGp hTp hvk hlk c0 c1 c2 evo evf hp hpm hBx
      go_wp2_with (go_at_call 27; refine cp.mono ?_; rintro e W3 ⟨v3, rfl, hi3, hB3⟩; refine Hid.out ?_)
      refine Lib.hid ?_
      have cl := lineOf_any hi3 HW.out.1.1 (by have := HW.out.1.2; omega) (by have := HW.out.2.1; omega)
      have HB3 : Hid (Below W1.heap.size W1 W3 ∧ Lib.IsBuilderF 67 5 W1.heap.size W1.heap.size (Lib.byteCells (kText (L.take m))) W3) := ⟨on1 HBX.out.1 hB3 (Nat.le_refl _), bld_on HBX.out.2 hB3⟩
      clear cp hi3 hB3
      go_wp2_with (go_at_call 26; refine cl.mono ?_; rintro e W4 ⟨rfl, hB4⟩; refine Hid.out ?_)
      refine Lib.hid ?_
      have HB4 : Hid (Below W1.heap.size W1 W4) := on1 HB3.out.1 hB4 (Nat.le_refl _)
      have cw := writeString_k W1.heap.size W1.heap.size (Lib.byteCells (kText (L.take m))) (bs (lineL (kWords p))) W4 (bld_on HB3.out.2 hB4) (by
        rw [Lib.byteCells_length, bs_size]
        have h1 := HKL.out m
        have h2 := HW.out.2.1
        have h3 : (lineL (kWords p)).length = (Lib.join (kWords p) [32]).length + 1 := by unfold lineL; simp
        omega) HB4.out.size
      clear cl hB4
      go_wp2_with (go_at_call 25; refine cw.mono ?_; rintro e W5 ⟨rfl, hb5, hB5, _⟩; refine Hid.out ?_)
      refine Lib.hid ?_
      have HRR : Hid (P1 W1 L (.int .i64 ((m + 1 : Nat) : Int)) W5) := by
        refine ⟨m + 1, by omega, rfl, ?_, HB4.out.trans hB5⟩
        rw [HW.out.2.2, bytes_app]
        exact .inr hb5
      clear cw hb5 hB5
      go_wp2
      refine ⟨?_, ?_⟩
      · first | exact HRR.out | ((repeat apply Exists.intro); refine ⟨?_, rfl⟩; exact HRR.out)
      · simp [intOf]
        try omega
    · have hme : L.take m = L := List.take_of_length_le (by omega)
      have HS2 : Hid (P2 W1 L B (.int .i64 0) wr) := by
        refine ⟨0, Nat.zero_le _, rfl, ?_, HBU.out.2⟩
        have := HBU.out.1
        rw [hme] at this
        simpa [bText] using this
      clear hme HBU hB
      go_wp2
      go_loopw [34] (fun s wr => P2 W1 L B s wr) (fun s _ => B.length - (intOf s).toNat)
      case atStart => exact HS2.out
      case round =>
        obtain ⟨q, hq, rfl, hbu, hB⟩ := hrel
        have hBw := on1 HBw1.out hB (Nat.le_refl _)
        have HBU : Hid (Lib.IsBuilderF 67 5 W1.heap.size W1.heap.size (Lib.byteCells (kText L ++ bText (B.take q))) wr ∧ Below W1.heap.size W1 wr) := ⟨hbu, hB⟩
        clear hbu
        by_cases hltq : q < B.length
        · obtain ⟨p, hp⟩ : ∃ p, B[q]? = some p := ⟨B[q], by simp [hltq]⟩
          obtain ⟨_, hGp, hGBp, _, _, hvb⟩ := HH.out
          obtain ⟨bk, ok, rfl, hbk, hlk⟩ := hvb q p hp
          have hpm : p ∈ B := List.mem_of_getElem? hp
          obtain ⟨c0, c1, c2, c3, c4⟩ := hlk q p hp
          have x0 := (hBw.cell (p := ⟨bk, ok + q * 5, none⟩) hbk).trans c0
          have x1 := (hBw.cell (p := ⟨bk, ok + q * 5 + 1, none⟩) hbk).trans c1
          have x2 := (hBw.cell (p := ⟨bk, ok + q * 5 + 2, none⟩) hbk).trans c2
          have x3 := (hBw.cell (p := ⟨bk, ok + q * 5 + 3, none⟩) hbk).trans c3
          have x4 := (hBw.cell (p := ⟨bk, ok + q * 5 + 4, none⟩) hbk).trans c4
          have hok := good_bond hGp hGBp hpm
          have cp := printBond_any p (wr.alloc (boxB p)) hok.rg
          have HW : Hid ((Lib.join (bWords p) [32]).length ≤ 132 ∧ bText (B.take (q + 1)) = bText (B.take q) ++ lineL (bWords p)) := ⟨bLine_len p hok, bText_take hp⟩
          have hmi : (q : Int) < (B.length : Int) := by omega
          have HBX : Hid (Below W1.heap.size W1 (wr.alloc (boxB p)) ∧ Lib.IsBuilderF 67 5 W1.heap.size W1.heap.size (Lib.byteCells (kText L ++ bText (B.take q))) (wr.alloc (boxB p))) := ⟨b_alloc hB (Nat.le_refl _) _, HBU.out.1.alloc _⟩
          clear hGp hGBp hvb hlk c0 c1 c2 c3 c4 hp hpm hok
          go_wp2_with (go_at_call 28; refine cp.mono ?_; rintro e W3 ⟨v3, rfl, hi3, hB3⟩; refine Hid.out ?_)
          refine Lib.hid ?_
          have cl := lineOf_any hi3 (by show 0 < 6; omega) (by show 6 ≤ 1000; omega) (by have := HW.out.1; omega)
          have HB3 : Hid (Below W1.heap.size W1 W3 ∧ Lib.IsBuilderF 67 5 W1.heap.size W1.heap.size (Lib.byteCells (kText L ++ bText (B.take q))) W3) := ⟨on1 HBX.out.1 hB3 (Nat.le_refl _), bld_on HBX.out.2 hB3⟩
          clear cp hi3 hB3
          go_wp2_with (go_at_call 26; refine cl.mono ?_; rintro e W4 ⟨rfl, hB4⟩; refine Hid.out ?_)
          refine Lib.hid ?_
          have HB4 : Hid (Below W1.heap.size W1 W4) := on1 HB3.out.1 hB4 (Nat.le_refl _)
          have cw := writeString_k W1.heap.size W1.heap.size (Lib.byteCells (kText L ++ bText (B.take q))) (bs (lineL (bWords p))) W4 (bld_on HB3.out.2 hB4) (by
            rw [Lib.byteCells_length, bs_size, List.length_append]
            have h1 := HKL.out L.length
            rw [List.take_length] at h1
            have h4 := HBL.out q
            have h2 := HW.out.1
            have h3 : (lineL (bWords p)).length = (Lib.join (bWords p) [32]).length + 1 := by unfold lineL; simp
            omega) HB4.out.size
          clear cl hB4
          go_wp2_with (go_at_call 25; refine cw.mono ?_; rintro e W5 ⟨rfl, hb5, hB5, _⟩; refine Hid.out ?_)
          refine Lib.hid ?_
          have HRR : Hid (P2 W1 L B (.int .i64 ((q + 1 : Nat) : Int)) W5) := by
            refine ⟨q + 1, by omega, rfl, ?_, HB4.out.trans hB5⟩
            rw [HW.out.2, ← List.append_assoc, bytes_app]
            exact .inr hb5
          clear cw hb5 hB5
          go_wp2
          refine ⟨?_, ?_⟩
          · first | exact HRR.out | ((repeat apply Exists.intro); refine ⟨?_, rfl⟩; exact HRR.out)
          · simp [intOf]
            try omega
        · have hqe : B.take q = B := List.take_of_length_le (by omega)
          have cS := Tryz.Builder_String_any_k W1.heap.size W1.heap.size (sText L B) wr (by
            have := HBU.out.1
            rw [hqe] at this
            exact this) hB.size
          clear hqe HBU
          go_wp2_with (go_at_call 29; refine cS.mono ?_; rintro e W6 ⟨rfl, _, hB6, _⟩)
          go_ret2
          exact ⟨rfl, HBw1.out.trans ((hB.trans hB6).mono HBw1.out.size)⟩
set_option maxHeartbeats 4000000 in
theorem sprint_bad {vk vb : Value} {L : List Kd} {B : List Bd} {w : World} (hK : IsK w vk L) (hP : Parts w L) (hz : SzK L) (hb : IsB w vb B) (hzb : SzB B) (he : ¬ (sErr L B).2 = 0) :
    Calls Tryz.prog 9 #[.agg #[vk, vb]] w fun e w' => e = .returned (.tuple #[.string ⟨#[]⟩, .iface 60 (.int .i64 (sErr L B).2)]) ∧ Below w.heap.size w w' := by
  obtain ⟨ak, ck, evk, hkl, _⟩ := isK_view hK
  obtain ⟨ab, cb, evb, _, _, _⟩ := isB_view hb
  subst evk
  subst evb
  have hB0 : Below w.heap.size w (w.alloc (.cells #[.slice ak L.length ck, .slice ab B.length cb] 25)) := b_alloc (Below.refl _ _) (Nat.le_refl _) _
  have cs := scheck_any (hK.on hB0) (hP.on hB0) hz (hb.on hB0) hzb
  rw [errV_ne he] at cs
  generalize (sErr L B).2 = x at cs ⊢
  generalize (sErr L B).1 = nme at cs
  clear hK hP hz hb hzb he
  go_enter Tryz.func9, Tryz.ntmps9
  go_wp2_with (go_at_call 6; refine cs.mono ?_; rintro e W1 ⟨rfl, hB1⟩)
  go_ret2
  exact ⟨rfl, on1 hB0 hB1 (Nat.le_refl _)⟩
end Go.Proofs.YtmffimhioobimaaGreatDoor
