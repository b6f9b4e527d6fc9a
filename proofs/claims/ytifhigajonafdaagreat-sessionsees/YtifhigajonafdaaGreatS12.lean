/-
  The walk of record.merged with one property.
-/
import Derived.Test.YtifhigajonafdaaGreatS03
import Derived.Test.YtifhigajonafdaaGreatS11
import Derived.Deep.RegionLaw
import Derived.Lib.Hide
namespace Go.Proofs.YtifhigajonafdaaGreat
open Go.RowKit
set_option linter.unusedVariables false
set_option linter.unusedSimpArgs false

def ins (p : Pr) : List Pr → List Pr
  | [] => [p]
  | a :: r => if a.lt p = true then a :: ins p r else if (a.nm.toList == p.nm.toList) = true then p :: r else p :: a :: r

def cellsOf (L : List Pr) : List Value := L.flatMap Pr.cells

theorem cellsOf_snoc (L : List Pr) (p : Pr) : cellsOf (L ++ [p]) = cellsOf L ++ p.cells := by simp [cellsOf]
theorem cellsOf_app (L M : List Pr) : cellsOf (L ++ M) = cellsOf L ++ cellsOf M := by simp [cellsOf]
theorem cellsOf_len (L : List Pr) : (cellsOf L).length = L.length * 4 := by
  induction L with
  | nil => rfl
  | cons a r ih => simp [cellsOf, Pr.cells] at ih ⊢; omega
theorem cellsOf_one (L : List Pr) : ∀ u ∈ cellsOf L, u.oneCell' = true := by
  intro u hu
  obtain ⟨p, _, hp⟩ := List.mem_flatMap.1 hu
  simp [Pr.cells] at hp
  rcases hp with rfl | rfl | rfl | rfl <;> rfl

theorem info33 : (Tryz.prog.info? 52).map (fun i => (i.zero, i.size, i.bytes)) = some (some (.agg #[.string ⟨#[]⟩, .int .i64 0, .int .i64 0, .string ⟨#[]⟩]), 4, 48) := by kernel_rfl



theorem ins_len (p : Pr) (L : List Pr) : L.length ≤ (ins p L).length ∧ (ins p L).length ≤ L.length + 1 := by
  induction L with
  | nil => simp [ins]
  | cons a r ih =>
    unfold ins
    split
    · simp; omega
    · split <;> simp
def slen : Value → Nat | .slice _ n _ => n | _ => 0

theorem own_al {w w0 : World} {base : Nat} {e : TypeId} {size : Nat} {v : Value} {n : Nat} {xs : List Value} (h : w.ownsRow base e size v n xs) (hh : w0.heap = w.heap) (o : Obj) : (w0.alloc o).ownsRow base e size v n xs := by
  have h0 : w0.ownsRow base e size v n xs := by unfold World.ownsRow at *; rw [hh]; exact h
  exact h0.alloc o
theorem cells_new (w0 : World) (p : Pr) : ∀ j u, p.cells[j]? = some u → (w0.alloc (.cells #[.string p.nm, .int .i64 p.t, .int .i64 p.n, .string p.s] 52)).cell? ((⟨w0.heap.size, 0, none⟩ : Addr).add j) = some u := by
  intro j u hu
  match j, hu with
  | 0, hu => simp [Pr.cells] at hu; subst hu; simp [Addr.add]
  | 1, hu => simp [Pr.cells] at hu; subst hu; simp [Addr.add]
  | 2, hu => simp [Pr.cells] at hu; subst hu; simp [Addr.add]
  | 3, hu => simp [Pr.cells] at hu; subst hu; simp [Addr.add]
  | k + 4, hu => simp [Pr.cells] at hu
theorem cells_one (p : Pr) : ∀ u ∈ p.cells, u.oneCell' = true := by
  intro u hu
  simp [Pr.cells] at hu
  rcases hu with rfl | rfl | rfl | rfl <;> rfl

def MR (w : World) (b off cap b2 o2 : Nat) (p : Pr) (L : List Pr) (a bb all : Value) (wr : World) : Prop :=
  ∃ (i o nb : Nat) (xs : List Pr), i ≤ L.length ∧ (i < L.length → o = off + i * 4) ∧ a = .slice (some ⟨b, o, none⟩) (L.length - i) (cap - i) ∧ bb = .slice (some ⟨b2, o2, none⟩) nb nb ∧
    ((nb = 1 ∧ xs = L.take i ∧ ins p L = L.take i ++ ins p (L.drop i)) ∨ (nb = 0 ∧ xs ++ L.drop i = ins p L)) ∧ wr.ownsRow w.heap.size 52 4 all xs.length (cellsOf xs) ∧ Below w.heap.size w wr

theorem mr_a {w w1 : World} {b off cap b2 o2 i la ca o' cc : Nat} {p a0 : Pr} {L : List Pr} {v1 : Value} (hi : i < L.length) (hcap : L.length ≤ cap)
    (HH : Hid (L.drop i = a0 :: L.drop (i + 1) ∧ L.take (i + 1) = L.take i ++ [a0] ∧ ins p L = L.take i ++ ins p (L.drop i))) (HL : Hid (la = L.length - i ∧ ca = cap - i ∧ (L.take i).length = i))
    (h1 : a0.lt p = true) (hown1 : w1.ownsRow w.heap.size 52 4 v1 ((L.take i).length + 1) (cellsOf (L.take i) ++ a0.cells)) (hB1 : Below w.heap.size w w1) (ho' : ca = 1 ∨ o' = off + i * 4 + 4) (hcc : cc = ca - 1) :
    MR w b off cap b2 o2 p L (.slice (some ⟨b, o', none⟩) (la - 1) cc) (.slice (some ⟨b2, o2, none⟩) 1 1) v1 w1 := by
  obtain ⟨hD, hT, hins⟩ := HH.out
  obtain ⟨hla, hca, hlen⟩ := HL.out
  refine ⟨i + 1, o', 1, L.take (i + 1), by omega, fun h => by omega, by rw [hcc, hla, hca, Nat.sub_sub, Nat.sub_sub], rfl, .inl ⟨rfl, rfl, ?_⟩, ?_, hB1⟩
  · rw [hins, hD, hT]; simp [ins, h1]
  · rw [hT, cellsOf_snoc]; simpa using hown1
theorem mr_b {w w1 : World} {b off cap b2 o2 i la ca o' cc : Nat} {p a0 : Pr} {L : List Pr} {v1 : Value} (hi : i < L.length) (hcap : L.length ≤ cap)
    (HH : Hid (L.drop i = a0 :: L.drop (i + 1) ∧ L.take (i + 1) = L.take i ++ [a0] ∧ ins p L = L.take i ++ ins p (L.drop i))) (HL : Hid (la = L.length - i ∧ ca = cap - i ∧ (L.take i).length = i))
    (h1 : ¬ a0.lt p = true) (h2 : (a0.nm.toList == p.nm.toList) = true) (hown1 : w1.ownsRow w.heap.size 52 4 v1 ((L.take i).length + 1) (cellsOf (L.take i) ++ p.cells)) (hB1 : Below w.heap.size w w1) (ho' : ca = 1 ∨ o' = off + i * 4 + 4) (hcc : cc = ca - 1) :
    MR w b off cap b2 o2 p L (.slice (some ⟨b, o', none⟩) (la - 1) cc) (.slice (some ⟨b2, o2, none⟩) 0 0) v1 w1 := by
  obtain ⟨hD, hT, hins⟩ := HH.out
  obtain ⟨hla, hca, hlen⟩ := HL.out
  refine ⟨i + 1, o', 0, L.take i ++ [p], by omega, fun h => by omega, by rw [hcc, hla, hca, Nat.sub_sub, Nat.sub_sub], rfl, .inr ⟨rfl, ?_⟩, ?_, hB1⟩
  · rw [hins, hD]; unfold ins; rw [if_neg h1, if_pos h2]; simp
  · rw [cellsOf_snoc]; simpa using hown1
theorem mr_c {w w1 : World} {b off cap b2 o2 i la ca : Nat} {p a0 : Pr} {L : List Pr} {v1 : Value} (hi : i < L.length) (hcap : L.length ≤ cap)
    (HH : Hid (L.drop i = a0 :: L.drop (i + 1) ∧ L.take (i + 1) = L.take i ++ [a0] ∧ ins p L = L.take i ++ ins p (L.drop i))) (HL : Hid (la = L.length - i ∧ ca = cap - i ∧ (L.take i).length = i))
    (h1 : ¬ a0.lt p = true) (h2 : ¬ (a0.nm.toList == p.nm.toList) = true) (hown1 : w1.ownsRow w.heap.size 52 4 v1 ((L.take i).length + 1) (cellsOf (L.take i) ++ p.cells)) (hB1 : Below w.heap.size w w1) :
    MR w b off cap b2 o2 p L (.slice (some ⟨b, off + i * 4, none⟩) la ca) (.slice (some ⟨b2, o2, none⟩) 0 0) v1 w1 := by
  obtain ⟨hD, hT, hins⟩ := HH.out
  obtain ⟨hla, hca, hlen⟩ := HL.out
  refine ⟨i, off + i * 4, 0, L.take i ++ [p], by omega, fun h => rfl, by rw [hla, hca], rfl, .inr ⟨rfl, ?_⟩, ?_, hB1⟩
  · rw [hins, hD]; conv => rhs; unfold ins
    rw [if_neg h1, if_neg h2]; simp
  · rw [cellsOf_snoc]; simpa using hown1
theorem lies_cells {w : World} {b o : Nat} {M : List Pr} (h : ∀ k p, M[k]? = some p → w.cell? ⟨b, o + k * 4, none⟩ = some (.string p.nm) ∧ w.cell? ⟨b, o + k * 4 + 1, none⟩ = some (.int .i64 p.t) ∧ w.cell? ⟨b, o + k * 4 + 2, none⟩ = some (.int .i64 p.n) ∧ w.cell? ⟨b, o + k * 4 + 3, none⟩ = some (.string p.s)) :
    ∀ j u, (cellsOf M)[j]? = some u → w.cell? ((⟨b, o, none⟩ : Addr).add j) = some u := by
  induction M generalizing o with
  | nil => intro j u hu; simp [cellsOf] at hu
  | cons a r ih =>
    intro j u hu
    obtain ⟨c0, c1, c2, c3⟩ := h 0 a rfl
    rw [Addr.add_lit]
    simp only [Nat.zero_mul, Nat.add_zero] at c0 c1 c2 c3
    match j, hu with
    | 0, hu => simp [cellsOf, Pr.cells] at hu; subst hu; exact c0
    | 1, hu => simp [cellsOf, Pr.cells] at hu; subst hu; exact c1
    | 2, hu => simp [cellsOf, Pr.cells] at hu; subst hu; exact c2
    | 3, hu => simp [cellsOf, Pr.cells] at hu; subst hu; exact c3
    | k + 4, hu =>
      have hu' : (cellsOf r)[k]? = some u := by simpa [cellsOf, Pr.cells] using hu
      have := ih (o := o + 4) (fun k p hp => by
        have := h (k + 1) p (by simpa using hp)
        rw [show o + (k + 1) * 4 = o + 4 + k * 4 by omega] at this
        exact this) k u hu'
      rw [Addr.add_lit] at this
      rw [show o + (k + 4) = o + 4 + k by omega]; exact this
theorem Lies.drop {w : World} {b off : Nat} {L : List Pr} (h : Lies w b off L) (i : Nat) : Lies w b (off + i * 4) (L.drop i) := fun k p hp => by
  have := h (i + k) p (by simpa using hp)
  rw [show off + (i + k) * 4 = off + i * 4 + k * 4 by omega] at this
  exact this

set_option maxHeartbeats 4000000 in
set_option maxRecDepth 100000 in
theorem merged_some (b off cap b2 o2 : Nat) (p : Pr) (L : List Pr) (w : World) (hb : b < w.heap.size) (hL : Lies w b off L) (hn : L.length ≤ 8) (hcap : L.length ≤ cap) (hb2 : b2 < w.heap.size) (hp : Lies w b2 o2 [p]) :
    Calls Tryz.prog 142 #[.slice (some ⟨b, off, none⟩) L.length cap, .slice (some ⟨b2, o2, none⟩) 1 1] w fun e w' => ∃ v, e = .returned v ∧ w'.ownsRow w.heap.size 52 4 v (ins p L).length (cellsOf (ins p L)) ∧ Below w.heap.size w w' := by
  obtain ⟨i0, hi0, hz0, hz1, hz2⟩ := info_parts info33
  go_enter Tryz.func142, Tryz.ntmps142
  go_wp2
  go_loopw [0, 1, 5] (fun a bb all wr => MR w b off cap b2 o2 p L a bb all wr) (fun a bb _ _ => slen a + slen bb)
  case atStart => exact ⟨0, off, 1, [], Nat.zero_le _, fun _ => by omega, rfl, rfl, .inl ⟨rfl, rfl, rfl⟩, World.ownsRow_nil _ _ _ _, Below.refl _ _⟩
  case round =>
    obtain ⟨i, o, nb, xs, hi, ho, rfl, rfl, hst, hown, hB⟩ := hrel
    obtain ⟨q0, q1, q2, q3⟩ := hp 0 p rfl
    simp only [Nat.zero_mul, Nat.add_zero] at q0 q1 q2 q3
    have f0 := (hB.cell (p := ⟨b2, o2, none⟩) hb2).trans q0
    have f1 := (hB.cell (p := ⟨b2, o2 + 1, none⟩) hb2).trans q1
    have f2 := (hB.cell (p := ⟨b2, o2 + 2, none⟩) hb2).trans q2
    have f3 := (hB.cell (p := ⟨b2, o2 + 3, none⟩) hb2).trans q3
    clear q0 q1 q2 q3
    have hbase := hB.size
    rcases hst with ⟨rfl, rfl, hins⟩ | ⟨rfl, hins⟩
    · by_cases hlt : i < L.length
      · obtain rfl := ho hlt
        obtain ⟨a0, ha0⟩ : ∃ a0, L[i]? = some a0 := ⟨L[i], by simp [hlt]⟩
        obtain ⟨c0, c1, c2, c3⟩ := hL i a0 ha0
        have d0 := (hB.cell (p := ⟨b, off + i * 4, none⟩) hb).trans c0
        have d1 := (hB.cell (p := ⟨b, off + i * 4 + 1, none⟩) hb).trans c1
        have d2 := (hB.cell (p := ⟨b, off + i * 4 + 2, none⟩) hb).trans c2
        have d3 := (hB.cell (p := ⟨b, off + i * 4 + 3, none⟩) hb).trans c3
        have hD : L.drop i = a0 :: L.drop (i + 1) := drop_at ha0
        have hT : L.take (i + 1) = L.take i ++ [a0] := by
          obtain ⟨hk, rfl⟩ := List.getElem?_eq_some_iff.1 ha0
          exact List.take_succ_eq_append_getElem hk
        have HH : Hid (L.drop i = a0 :: L.drop (i + 1) ∧ L.take (i + 1) = L.take i ++ [a0] ∧ ins p L = L.take i ++ ins p (L.drop i)) := ⟨hD, hT, hins⟩
        obtain ⟨la, hla⟩ : ∃ la, la = L.length - i := ⟨_, rfl⟩
        obtain ⟨ca, hca⟩ : ∃ ca, ca = cap - i := ⟨_, rfl⟩
        have hl0 : 0 < la := by omega
        have hlc : la ≤ ca := by omega
        have hlen : (L.take i).length = i := by simp; omega
        have HL : Hid (la = L.length - i ∧ ca = cap - i ∧ (L.take i).length = i) := ⟨hla, hca, hlen⟩
        have HO : Hid (wr.ownsRow w.heap.size 52 4 u5 (L.take i).length (cellsOf (L.take i))) := hown
        have hi8 : i < 8 := by omega
        rw [← hla, ← hca]
        clear hla hca hlen hD hT hins ha0 c0 c1 c2 c3 hL hp
        have HM : Hid ((L.take i).length + 1 ≤ maxLen ∧ ((L.take i).length + 1) * 48 ≤ 140737488355328) := by
          rw [HL.out.2.2]; unfold maxLen; exact ⟨by omega, by omega⟩
        have hl1 : 1 ≤ (la : Int) := by omega
        have HX : Hid (i < L.length ∧ L.length ≤ cap) := ⟨hlt, hcap⟩
        have HB : Hid (Below w.heap.size w wr) := hB
        clear hown hlt hcap hi ho
        by_cases h1 : a0.lt p = true
        · have h1' : Op.bytesLess a0.nm.toList p.nm.toList = true := h1
          have H1 : Hid (a0.lt p = true) := h1
          clear h1
          go_wp2_with fail
          go_quiet (fail)
          go_wp2_with fail
          by_cases hc1 : ca = 1
          all_goals
            go_region_law (refine step_append_own rfl (.tmp 23) (.tmp 27) 46 rfl w.heap.size 52 i0 _ 4 48 Tryz.underlying46 hi0 hz0 hz1 hz2 rfl (by decide) u5 (L.take i).length (cellsOf (L.take i)) (by simp [Act.eval, Act.put]) (own_al HO.out rfl _) ⟨wr.heap.size, 0, none⟩ 1 1 a0.cells (by simp [Act.eval, Act.put]) rfl (cells_new _ a0) (cells_one a0) HM.out.1 HM.out.2 (by simp; omega) ?_; intro v1 w1 hown1 hgrow1)
            all_goals
              go_wp2
              refine ⟨?_, ?_⟩
              · (repeat apply Exists.intro)
                refine ⟨?_, rfl⟩
                exact mr_a HX.out.1 HX.out.2 HH HL H1.out hown1 ((b_alloc ((b_drewN HB.out _).drew) _).grown hgrow1 (b_alloc ((b_drewN HB.out _).drew) _).size (fun k hk => (HO.out.lt k hk).1)) (by first | exact .inl hc1 | exact .inr rfl) (by omega)
              · simp [Act.put, slen]
                try omega
        · have h1' : Op.bytesLess a0.nm.toList p.nm.toList = false := by simpa [Pr.lt] using h1
          have H1 : Hid (¬ a0.lt p = true) := h1
          clear h1
          by_cases h2 : (a0.nm.toList == p.nm.toList) = true
          · by_cases hc1 : ca = 1
            all_goals
              go_wp2_with fail
              go_quiet (fail)
              go_wp2_with fail
              go_quiet (fail)
              go_wp2_with fail
              go_region_law (refine step_append_own rfl (.tmp 42) (.tmp 46) 46 rfl w.heap.size 52 i0 _ 4 48 Tryz.underlying46 hi0 hz0 hz1 hz2 rfl (by decide) u5 (L.take i).length (cellsOf (L.take i)) (by simp [Act.eval, Act.put]) (own_al HO.out rfl _) ⟨wr.heap.size, 0, none⟩ 1 1 p.cells (by simp [Act.eval, Act.put]) rfl (cells_new _ p) (cells_one p) HM.out.1 HM.out.2 (by simp; omega) ?_; intro v1 w1 hown1 hgrow1)
              all_goals
                refine ⟨?_, ?_⟩
                · (repeat apply Exists.intro)
                  refine ⟨?_, rfl⟩
                  exact mr_b HX.out.1 HX.out.2 HH HL H1.out h2 hown1 ((b_alloc (b_drewN HB.out _) _).grown hgrow1 (b_alloc (b_drewN HB.out _) _).size (fun k hk => (HO.out.lt k hk).1)) (by first | exact .inl hc1 | exact .inr rfl) (by omega)
                · simp [Act.put, slen]
                  try omega
          · have h2' : (a0.nm.toList == p.nm.toList) = false := by simpa using h2
            have H2 : Hid (¬ (a0.nm.toList == p.nm.toList) = true) := h2
            clear h2
            go_wp2_with fail
            go_quiet (fail)
            go_wp2_with fail
            go_quiet (fail)
            go_wp2_with fail
            go_region_law (refine step_append_own rfl (.tmp 42) (.tmp 46) 46 rfl w.heap.size 52 i0 _ 4 48 Tryz.underlying46 hi0 hz0 hz1 hz2 rfl (by decide) u5 (L.take i).length (cellsOf (L.take i)) (by simp [Act.eval, Act.put]) (own_al HO.out rfl _) ⟨wr.heap.size, 0, none⟩ 1 1 p.cells (by simp [Act.eval, Act.put]) rfl (cells_new _ p) (cells_one p) HM.out.1 HM.out.2 (by simp; omega) ?_; intro v1 w1 hown1 hgrow1)
            all_goals
              refine ⟨?_, ?_⟩
              · (repeat apply Exists.intro)
                refine ⟨?_, rfl⟩
                exact mr_c HX.out.1 HX.out.2 HH HL H1.out H2.out hown1 ((b_alloc (b_drewN HB.out _) _).grown hgrow1 (b_alloc (b_drewN HB.out _) _).size (fun k hk => (HO.out.lt k hk).1))
              · simp [Act.put, slen]
                try omega
      · obtain rfl : i = L.length := by omega
        have hT : L.take L.length = L := List.take_length
        have H1 : Hid (ins p L = L ++ [p]) := by
          show _ = _
          rw [hins, hT, List.drop_length]; rfl
        rw [hT] at hown
        have e0 : L.length - L.length = 0 := Nat.sub_self _
        rw [e0]
        have HM : Hid (L.length + 0 ≤ maxLen ∧ (L.length + 0) * 48 ≤ 140737488355328 ∧ L.length + 0 + 1 ≤ maxLen ∧ (L.length + 0 + 1) * 48 ≤ 140737488355328) := by
          unfold maxLen; exact ⟨by omega, by omega, by omega, by omega⟩
        have HO : Hid (wr.ownsRow w.heap.size 52 4 u5 L.length (cellsOf L)) := hown
        have HP : Hid (Lies w b2 o2 [p]) := hp
        have HB : Hid (Below w.heap.size w wr) := hB
        obtain ⟨cc, hcc⟩ : ∃ cc, cc = cap - L.length := ⟨_, rfl⟩
        rw [← hcc]
        clear hT hins e0 ho hown hL hp hB hcc
        go_wp2_with (first
          | (at_builtin; refine wpList_append_own _ rfl (.tmp 50) (.tmp 51) 46 rfl w.heap.size 52 i0 _ 4 48 Tryz.underlying46 hi0 hz0 hz1 hz2 rfl (by decide) u5 L.length (cellsOf L) rfl HO.out ⟨b, o, none⟩ 0 cc [] rfl rfl (by intro j u hu; simp at hu) (by intro u hu; simp at hu) HM.out.1 HM.out.2.1 hbase ?_; intro v1 w1 hown1 hgrow1 _)
          | (at_builtin; refine wpList_append_own _ rfl (.tmp 52) (.tmp 53) 46 rfl w.heap.size 52 i0 _ 4 48 Tryz.underlying46 hi0 hz0 hz1 hz2 rfl (by decide) v1 (L.length + 0) (cellsOf L ++ []) rfl hown1 ⟨b2, o2, none⟩ 1 1 (cellsOf [p]) rfl rfl (lies_cells (HP.out.on hb2 (HB.out.grown hgrow1 HB.out.size (fun k hk => (HO.out.lt k hk).1)))) (cellsOf_one [p]) HM.out.2.2.1 HM.out.2.2.2 (Nat.le_trans hbase hgrow1.size) ?_; intro v2 w2 hown2 hgrow2 _))
        go_ret
        refine ⟨v2, rfl, ?_, ?_⟩
        · rw [H1.out, cellsOf_app]; simpa using hown2
        · have h1 := HB.out.grown hgrow1 HB.out.size (fun k hk => (HO.out.lt k hk).1)
          exact h1.grown hgrow2 h1.size (fun k hk => (hown1.lt k hk).1)
    · have H1 : Hid (xs ++ L.drop i = ins p L) := hins
      obtain ⟨la, hla⟩ : ∃ la, la = L.length - i := ⟨_, rfl⟩
      obtain ⟨cc, hcc⟩ : ∃ cc, cc = cap - i := ⟨_, rfl⟩
      rw [← hla, ← hcc]
      have hx9 : xs.length + la ≤ 9 := by
        have h1 : (xs ++ L.drop i).length = (ins p L).length := by rw [hins]
        have h2 := ins_len p L
        simp at h1; omega
      have HM : Hid (xs.length + la ≤ maxLen ∧ (xs.length + la) * 48 ≤ 140737488355328 ∧ xs.length + la + 0 ≤ maxLen ∧ (xs.length + la + 0) * 48 ≤ 140737488355328) := by
        unfold maxLen; exact ⟨by omega, by omega, by omega, by omega⟩
      have HO : Hid (wr.ownsRow w.heap.size 52 4 u5 xs.length (cellsOf xs)) := hown
      have HB : Hid (Below w.heap.size w wr) := hB
      have HC : Hid (∀ j u, (cellsOf (L.drop i))[j]? = some u → wr.cell? ((⟨b, o, none⟩ : Addr).add j) = some u) := by
        show ∀ j u, _
        by_cases h : i < L.length
        · obtain rfl := ho h
          exact lies_cells ((hL.drop i).on hb hB)
        · rw [List.drop_eq_nil_of_le (by omega)]
          intro j u hu; simp [cellsOf] at hu
      have HLn : Hid ((cellsOf (L.drop i)).length = la * 4) := by
        show _ = _
        rw [cellsOf_len, hla]; simp
      clear hins ho hown hL hp hB hcc hla
      go_wp2_with (first
        | (at_builtin; refine wpList_append_own _ rfl (.tmp 50) (.tmp 51) 46 rfl w.heap.size 52 i0 _ 4 48 Tryz.underlying46 hi0 hz0 hz1 hz2 rfl (by decide) u5 xs.length (cellsOf xs) rfl HO.out ⟨b, o, none⟩ la cc (cellsOf (L.drop i)) rfl HLn.out HC.out (cellsOf_one _) HM.out.1 HM.out.2.1 hbase ?_; intro v1 w1 hown1 hgrow1 _)
        | (at_builtin; refine wpList_append_own _ rfl (.tmp 52) (.tmp 53) 46 rfl w.heap.size 52 i0 _ 4 48 Tryz.underlying46 hi0 hz0 hz1 hz2 rfl (by decide) v1 (xs.length + la) (cellsOf xs ++ cellsOf (L.drop i)) rfl hown1 ⟨b2, o2, none⟩ 0 0 [] rfl rfl (by intro j u hu; simp at hu) (by intro u hu; simp at hu) HM.out.2.2.1 HM.out.2.2.2 (Nat.le_trans hbase hgrow1.size) ?_; intro v2 w2 hown2 hgrow2 _))
      all_goals
        go_ret
        refine ⟨v2, rfl, ?_, ?_⟩
        · rw [← H1.out, cellsOf_app]
          have e : (xs ++ L.drop i).length = xs.length + la := by
            have h := HLn.out
            rw [cellsOf_len] at h
            rw [List.length_append]; omega
          rw [e]; simpa using hown2
        · have h1 := HB.out.grown hgrow1 HB.out.size (fun k hk => (HO.out.lt k hk).1)
          exact h1.grown hgrow2 h1.size (fun k hk => (hown1.lt k hk).1)

end Go.Proofs.YtifhigajonafdaaGreat

/-
  The walks of record.Join with one property, and of record.Set.
-/
namespace Go.Proofs.YtifhigajonafdaaGreat
open Go.RowKit
set_option linter.unusedVariables false
set_option linter.unusedSimpArgs false



set_option maxHeartbeats 4000000 in
set_option maxRecDepth 100000 in
theorem merged_nil (b2 o2 : Nat) (p : Pr) (w : World) (hb2 : b2 < w.heap.size) (hp : Lies w b2 o2 [p]) :
    Calls Tryz.prog 142 #[.slice none 0 0, .slice (some ⟨b2, o2, none⟩) 1 1] w fun e w' => ∃ v, e = .returned v ∧ w'.ownsRow w.heap.size 52 4 v (ins p []).length (cellsOf (ins p [])) ∧ Below w.heap.size w w' := by
  obtain ⟨i0, hi0, hz0, hz1, hz2⟩ := info_parts info33
  have HP : Hid (Lies w b2 o2 [p]) := hp
  clear hp
  go_enter Tryz.func142, Tryz.ntmps142
  go_wp2
  go_loopw [0, 1, 5] (fun a bb all wr => a = .slice none 0 0 ∧ bb = .slice (some ⟨b2, o2, none⟩) 1 1 ∧ all = .slice none 0 0 ∧ wr = w) (fun _ _ _ _ => 0)
  case atStart => exact ⟨rfl, rfl, rfl, rfl⟩
  case round =>
    obtain ⟨rfl, rfl, rfl, rfl⟩ := hrel
    go_wp2_with (first
      | (at_builtin; refine wpList_append_own _ rfl (.tmp 52) (.tmp 53) 46 rfl wr.heap.size 52 i0 _ 4 48 Tryz.underlying46 hi0 hz0 hz1 hz2 rfl (by decide) (.slice none 0 0) 0 [] rfl (World.ownsRow_nil _ _ _ _) ⟨b2, o2, none⟩ 1 1 (cellsOf [p]) rfl rfl (lies_cells HP.out) (cellsOf_one [p]) (by decide) (by decide) (Nat.le_refl _) ?_; intro v2 w2 hown2 hgrow2 _))
    go_ret
    refine ⟨v2, rfl, ?_, (Below.refl _ _).grown hgrow2 (Nat.le_refl _) (fun k hk => by cases hk)⟩
    simpa [ins] using hown2

theorem merged_any {v : Value} {L : List Pr} {w : World} (h : IsRec w v L) (hn : L.length ≤ 8) (b2 o2 : Nat) (p : Pr) (hb2 : b2 < w.heap.size) (hp : Lies w b2 o2 [p]) :
    Calls Tryz.prog 142 #[v, .slice (some ⟨b2, o2, none⟩) 1 1] w fun e w' => ∃ v, e = .returned v ∧ w'.ownsRow w.heap.size 52 4 v (ins p L).length (cellsOf (ins p L)) ∧ Below w.heap.size w w' := by
  rcases h with ⟨rfl, rfl⟩ | ⟨b, off, cap, rfl, hc, hb, hl⟩
  · exact merged_nil b2 o2 p w hb2 hp
  · exact merged_some b off cap b2 o2 p L w hb hl hn hc hb2 hp

theorem cellsOf_at {M : List Pr} {k : Nat} {p : Pr} (h : M[k]? = some p) : (cellsOf M)[k * 4]? = some (.string p.nm) ∧ (cellsOf M)[k * 4 + 1]? = some (.int .i64 p.t) ∧ (cellsOf M)[k * 4 + 2]? = some (.int .i64 p.n) ∧ (cellsOf M)[k * 4 + 3]? = some (.string p.s) := by
  induction M generalizing k with
  | nil => simp at h
  | cons a r ih =>
    cases k with
    | zero => simp at h; subst h; simp [cellsOf, Pr.cells]
    | succ k =>
      have := ih (k := k) (by simpa using h)
      have e : ∀ j, (cellsOf (a :: r))[(k + 1) * 4 + j]? = (cellsOf r)[k * 4 + j]? := fun j => by
        rw [show (k + 1) * 4 + j = (k * 4 + j) + 4 by omega]; simp [cellsOf, Pr.cells]
      exact ⟨(e 0).trans this.1, (e 1).trans this.2.1, (e 2).trans this.2.2.1, (e 3).trans this.2.2.2⟩
theorem own_isRec {w : World} {base : Nat} {v : Value} {M : List Pr} (h : w.ownsRow base 52 4 v M.length (cellsOf M)) : IsRec w v M := by
  have hc : ∀ g, v.ownBlock = some g → ∀ j u, (cellsOf M)[j]? = some u → w.cell? ((⟨g, 0, none⟩ : Addr).add j) = some u := fun g hg => h.cells hg
  rcases h.2 with ⟨rfl, h0⟩ | ⟨g, cap, cur, rfl, hb, hg, hle, hcm, hcs, ht⟩
  · exact .inl ⟨rfl, List.eq_nil_of_length_eq_zero h0⟩
  · refine .inr ⟨g, 0, cap, rfl, hle, (Array.getElem?_eq_some_iff.1 hg).1, fun k p hp => ?_⟩
    obtain ⟨c0, c1, c2, c3⟩ := cellsOf_at hp
    have hc' := hc g rfl
    have d0 := hc' _ _ c0
    have d1 := hc' _ _ c1
    have d2 := hc' _ _ c2
    have d3 := hc' _ _ c3
    rw [Addr.add_lit] at d0 d1 d2 d3
    exact ⟨d0, by rw [Nat.add_assoc]; exact d1, by rw [Nat.add_assoc]; exact d2, by rw [Nat.add_assoc]; exact d3⟩

def rsErr (p : Pr) (L : List Pr) : Int := if rErr L = 0 then (if rErr [p] = 0 then (if 8 < (ins p L).length then 4 else 0) else rErr [p]) else rErr L

def SetPost (p : Pr) (L : List Pr) (w : World) (e : Ending) (w' : World) : Prop :=
  ∃ v, e = .returned (.tuple #[v, errV (rsErr p L)]) ∧ (rsErr p L = 0 → w'.ownsRow w.heap.size 52 4 v (ins p L).length (cellsOf (ins p L))) ∧ (¬ rsErr p L = 0 → v = .slice none 0 0) ∧ Below w.heap.size w w'

set_option maxHeartbeats 4000000 in
set_option maxRecDepth 100000 in
theorem join_any {v : Value} {L : List Pr} {w : World} (h : IsRec w v L) (hs : Sz L) (hm : L.length ≤ maxLen) (b2 o2 : Nat) (p : Pr) (hb2 : b2 < w.heap.size) (hp : Lies w b2 o2 [p]) (hsp : Sz [p]) :
    Calls Tryz.prog 112 #[v, .slice (some ⟨b2, o2, none⟩) 1 1] w (SetPost p L w) := by
  have c1 := rcheck_any h hs hm
  have h2 : IsRec w (.slice (some ⟨b2, o2, none⟩) 1 1) [p] := .inr ⟨b2, o2, 1, rfl, Nat.le_refl _, hb2, hp⟩
  by_cases e1 : rErr L = 0
  · rw [e1, errV_0] at c1
    by_cases e2 : rErr [p] = 0
    · have hn := rErr_len e1
      by_cases e3 : 8 < (ins p L).length
      · have es : rsErr p L = 4 := by unfold rsErr; rw [if_pos e1, if_pos e2, if_pos e3]
        have HE : Hid (rsErr p L = 4) := es
        have H2 : Hid (IsRec w v L ∧ L.length ≤ 8 ∧ Lies w b2 o2 [p] ∧ IsRec w (.slice (some ⟨b2, o2, none⟩) 1 1) [p] ∧ Sz [p] ∧ rErr [p] = 0) := ⟨h, hn, hp, h2, hsp, e2⟩
        have hM9 : (ins p L).length ≤ 9 := by have := ins_len p L; omega
        have hcast : (8 : Int) < ((ins p L).length : Int) := by omega
        clear es e1 h2 h hp hs hm hsp e2 hn
        go_enter Tryz.func112, Tryz.ntmps112
        go_wp2_with (go_at_call 90; refine c1.mono ?_; rintro e W1 ⟨rfl, hB1⟩; refine Hid.out ?_)
        refine Lib.hid ?_
        have c2 := rcheck_any (H2.out.2.2.2.1.on hB1) H2.out.2.2.2.2.1 (by simp [maxLen])
        rw [H2.out.2.2.2.2.2, errV_0] at c2
        go_wp2_with (go_at_call 90; refine c2.mono ?_; rintro e W2 ⟨rfl, hB2⟩; refine Hid.out ?_)
        refine Lib.hid ?_
        have hB := on1 hB1 hB2
        have c3 := merged_any (H2.out.1.on hB) H2.out.2.1 b2 o2 p (Nat.lt_of_lt_of_le hb2 hB.size) (H2.out.2.2.1.on hb2 hB)
        clear c1 c2
        go_wp2_with (go_at_call 142; refine c3.mono ?_; rintro e W3 ⟨v3, rfl, hO, hB3⟩; obtain ⟨ao, cp, rfl⟩ := own_slice hO)
        go_ret2
        exact ⟨.slice none 0 0, ret_v (by rw [HE.out]; rfl), fun h => absurd h (by rw [HE.out]; decide), fun _ => rfl, on1 hB hB3⟩
      · have es : rsErr p L = 0 := by unfold rsErr; rw [if_pos e1, if_pos e2, if_neg e3]
        have HE : Hid (rsErr p L = 0) := es
        have H2 : Hid (IsRec w v L ∧ L.length ≤ 8 ∧ Lies w b2 o2 [p] ∧ IsRec w (.slice (some ⟨b2, o2, none⟩) 1 1) [p] ∧ Sz [p] ∧ rErr [p] = 0) := ⟨h, hn, hp, h2, hsp, e2⟩
        have hcast : ((ins p L).length : Int) ≤ 8 := by omega
        clear es e1 h2 h hp hs hm hsp e2 hn e3
        go_enter Tryz.func112, Tryz.ntmps112
        go_wp2_with (go_at_call 90; refine c1.mono ?_; rintro e W1 ⟨rfl, hB1⟩; refine Hid.out ?_)
        refine Lib.hid ?_
        have c2 := rcheck_any (H2.out.2.2.2.1.on hB1) H2.out.2.2.2.2.1 (by simp [maxLen])
        rw [H2.out.2.2.2.2.2, errV_0] at c2
        go_wp2_with (go_at_call 90; refine c2.mono ?_; rintro e W2 ⟨rfl, hB2⟩; refine Hid.out ?_)
        refine Lib.hid ?_
        have hB := on1 hB1 hB2
        have c3 := merged_any (H2.out.1.on hB) H2.out.2.1 b2 o2 p (Nat.lt_of_lt_of_le hb2 hB.size) (H2.out.2.2.1.on hb2 hB)
        clear c1 c2
        go_wp2_with (go_at_call 142; refine c3.mono ?_; rintro e W3 ⟨v3, rfl, hO, hB3⟩; obtain ⟨ao, cp, rfl⟩ := own_slice hO)
        go_ret2
        exact ⟨_, ret_v (by rw [HE.out]; rfl), fun _ => own_base hO hB.size, fun h => absurd HE.out h, on1 hB hB3⟩
    · have es : rsErr p L = rErr [p] := by unfold rsErr; rw [if_pos e1, if_neg e2]
      have HE : Hid (rsErr p L = rErr [p] ∧ ¬ rErr [p] = 0) := ⟨es, e2⟩
      have H2 : Hid (IsRec w (.slice (some ⟨b2, o2, none⟩) 1 1) [p] ∧ Sz [p]) := ⟨h2, hsp⟩
      clear es e1 h2 h hp hs hm hsp e2
      go_enter Tryz.func112, Tryz.ntmps112
      go_wp2_with (go_at_call 90; refine c1.mono ?_; rintro e W1 ⟨rfl, hB1⟩; refine Hid.out ?_)
      refine Lib.hid ?_
      have c2 := rcheck_any (H2.out.1.on hB1) H2.out.2 (by simp [maxLen])
      rw [errV_ne HE.out.2] at c2
      clear c1
      go_wp2_with (go_at_call 90; refine c2.mono ?_; rintro e W2 ⟨rfl, hB2⟩)
      go_ret2
      exact ⟨.slice none 0 0, ret_v (by rw [HE.out.1, errV_ne HE.out.2]; rfl), fun h => absurd h (by rw [HE.out.1]; exact HE.out.2), fun _ => rfl, on1 hB1 hB2⟩
  · have es : rsErr p L = rErr L := by unfold rsErr; rw [if_neg e1]
    have HE : Hid (rsErr p L = rErr L ∧ ¬ rErr L = 0) := ⟨es, e1⟩
    rw [errV_ne e1] at c1
    have H : Hid (∀ w, IsRec w v L → True) := fun _ _ => trivial
    clear es e1 h2 h hp hs hm
    go_enter Tryz.func112, Tryz.ntmps112
    go_wp2_with (first | (go_at_call 90; refine c1.mono ?_; rintro e W1 ⟨rfl, hB1⟩))
    go_ret2
    exact ⟨.slice none 0 0, ret_v (by rw [HE.out.1, errV_ne HE.out.2]; rfl), fun h => absurd h (by rw [HE.out.1]; exact HE.out.2), fun _ => rfl, hB1⟩



theorem lies_new (w0 : World) (p : Pr) : Lies (w0.alloc (.cells #[.string p.nm, .int .i64 p.t, .int .i64 p.n, .string p.s] 52)) w0.heap.size 0 [p] := by
  intro k q hq
  match k, hq with
  | 0, hq => simp at hq; subst hq; simp
  | k + 1, hq => simp at hq

set_option maxHeartbeats 4000000 in
set_option maxRecDepth 100000 in
theorem set_any {v : Value} {L : List Pr} {w : World} (h : IsRec w v L) (hs : Sz L) (hm : L.length ≤ maxLen) (p : Pr) (hsp : Sz [p]) :
    Calls Tryz.prog 81 #[v, p.one] w (SetPost p L w) := by
  have hB0 : Below w.heap.size w ((w.alloc (.cells #[.string p.nm, .int .i64 p.t, .int .i64 p.n, .string p.s] 52)).alloc (.cells #[.string p.nm, .int .i64 p.t, .int .i64 p.n, .string p.s] 52)) := b_alloc (b_alloc (Below.refl _ _) _) _
  have c := join_any (h.on hB0) hs hm (w.alloc (.cells #[.string p.nm, .int .i64 p.t, .int .i64 p.n, .string p.s] 52)).heap.size 0 p (by simp) (lies_new _ p) hsp
  have H : Hid (IsRec w v L) := h
  clear h hs hm hsp
  go_enter Tryz.func81, Tryz.ntmps81
  rw [show (w.alloc (.cells #[.string p.nm, .int .i64 p.t, .int .i64 p.n, .string p.s] 52)).heap.size = w.heap.size + 1 from by simp] at c
  go_wp2_with (go_at_call 112; refine c.mono ?_; rintro e W1 ⟨v1, rfl, h1, h2, hB1⟩)
  go_ret2
  exact ⟨v1, rfl, fun e => own_base (h1 e) (by simp; omega), h2, hB0.trans (hB1.mono (by simp; omega))⟩

end Go.Proofs.YtifhigajonafdaaGreat
