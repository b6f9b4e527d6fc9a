/-
  The walk of record.merged with one property.
-/
import Derived.Test.YtpmblbhemcippaaGreatDoorM04
import Derived.Deep.RegionLaw
import Derived.Test.YtpmblbhemcippaaGreatDoorM01
namespace Go.Proofs.YtpmblbhemcippaaGreatDoor
open Go.RowKit
set_option linter.unusedVariables false
set_option linter.unusedSimpArgs false

def ins (p : Pr) : List Pr → List Pr
  | [] => [p]
  | a :: r => if a.lt p = true then a :: ins p r else if (a.nm.toList == p.nm.toList) = true then p :: r else p :: a :: r

def cellsOf (L : List Pr) : List Value := L.flatMap Pr.cells

theorem cellsOf_snoc (L : List Pr) (p : Pr) : cellsOf (L ++ [p]) = cellsOf L ++ p.cells := by simp [cellsOf]
theorem cellsOf_app (L M : List Pr) : cellsOf (L ++ M) = cellsOf L ++ cellsOf M := by simp [cellsOf]
theorem cellsOf_len (L : List Pr) : (cellsOf L).length = L.length * 4 := by
  induction L with
  | nil => rfl
  | cons a r ih => simp [cellsOf, Pr.cells] at ih ⊢; omega
theorem cellsOf_one (L : List Pr) : ∀ u ∈ cellsOf L, u.oneCell' = true := by
  intro u hu
  obtain ⟨p, _, hp⟩ := List.mem_flatMap.1 hu
  simp [Pr.cells] at hp
  rcases hp with rfl | rfl | rfl | rfl <;> rfl

theorem info33 : (Tryz.prog.info? 62).map (fun i => (i.zero, i.size, i.bytes)) = some (some (.agg #[.string ⟨#[]⟩, .int .i64 0, .int .i64 0, .string ⟨#[]⟩]), 4, 48) := by kernel_rfl



theorem ins_len (p : Pr) (L : List Pr) : L.length ≤ (ins p L).length ∧ (ins p L).length ≤ L.length + 1 := by
  induction L with
  | nil => simp [ins]
  | cons a r ih =>
    unfold ins
    split
    · simp; omega
    · split <;> simp
def slen : Value → Nat | .slice _ n _ => n | _ => 0

theorem own_al {w w0 : World} {base : Nat} {e : TypeId} {size : Nat} {v : Value} {n : Nat} {xs : List Value} (h : w.ownsRow base e size v n xs) (hh : w0.heap = w.heap) (o : Obj) : (w0.alloc o).ownsRow base e size v n xs := by
  have h0 : w0.ownsRow base e size v n xs := by unfold World.ownsRow at *; rw [hh]; exact h
  exact h0.alloc o
theorem cells_new (w0 : World) (p : Pr) : ∀ j u, p.cells[j]? = some u → (w0.alloc (.cells #[.string p.nm, .int .i64 p.t, .int .i64 p.n, .string p.s] 62)).cell? ((⟨w0.heap.size, 0, none⟩ : Addr).add j) = some u := by
  intro j u hu
  match j, hu with
  | 0, hu => simp [Pr.cells] at hu; subst hu; simp [Addr.add]
  | 1, hu => simp [Pr.cells] at hu; subst hu; simp [Addr.add]
  | 2, hu => simp [Pr.cells] at hu; subst hu; simp [Addr.add]
  | 3, hu => simp [Pr.cells] at hu; subst hu; simp [Addr.add]
  | k + 4, hu => simp [Pr.cells] at hu
theorem cells_one (p : Pr) : ∀ u ∈ p.cells, u.oneCell' = true := by
  intro u hu
  simp [Pr.cells] at hu
  rcases hu with rfl | rfl | rfl | rfl <;> rfl

def MR (w : World) (b off cap b2 o2 : Nat) (p : Pr) (L : List Pr) (a bb all : Value) (wr : World) : Prop :=
  ∃ (i o nb : Nat) (xs : List Pr), i ≤ L.length ∧ (i < L.length → o = off + i * 4) ∧ a = .slice (some ⟨b, o, none⟩) (L.length - i) (cap - i) ∧ bb = .slice (some ⟨b2, o2, none⟩) nb nb ∧
    ((nb = 1 ∧ xs = L.take i ∧ ins p L = L.take i ++ ins p (L.drop i)) ∨ (nb = 0 ∧ xs ++ L.drop i = ins p L)) ∧ wr.ownsRow w.heap.size 62 4 all xs.length (cellsOf xs) ∧ Below w.heap.size w wr

theorem mr_a {w w1 : World} {b off cap b2 o2 i la ca o' cc : Nat} {p a0 : Pr} {L : List Pr} {v1 : Value} (hi : i < L.length) (hcap : L.length ≤ cap)
    (HH : Hid (L.drop i = a0 :: L.drop (i + 1) ∧ L.take (i + 1) = L.take i ++ [a0] ∧ ins p L = L.take i ++ ins p (L.drop i))) (HL : Hid (la = L.length - i ∧ ca = cap - i ∧ (L.take i).length = i))
    (h1 : a0.lt p = true) (hown1 : w1.ownsRow w.heap.size 62 4 v1 ((L.take i).length + 1) (cellsOf (L.take i) ++ a0.cells)) (hB1 : Below w.heap.size w w1) (ho' : ca = 1 ∨ o' = off + i * 4 + 4) (hcc : cc = ca - 1) :
    MR w b off cap b2 o2 p L (.slice (some ⟨b, o', none⟩) (la - 1) cc) (.slice (some ⟨b2, o2, none⟩) 1 1) v1 w1 := by
  obtain ⟨hD, hT, hins⟩ := HH.out
  obtain ⟨hla, hca, hlen⟩ := HL.out
  refine ⟨i + 1, o', 1, L.take (i + 1), by omega, fun h => by omega, by rw [hcc, hla, hca, Nat.sub_sub, Nat.sub_sub], rfl, .inl ⟨rfl, rfl, ?_⟩, ?_, hB1⟩
  · rw [hins, hD, hT]; simp [ins, h1]
  · rw [hT, cellsOf_snoc]; simpa using hown1
theorem mr_b {w w1 : World} {b off cap b2 o2 i la ca o' cc : Nat} {p a0 : Pr} {L : List Pr} {v1 : Value} (hi : i < L.length) (hcap : L.length ≤ cap)
    (HH : Hid (L.drop i = a0 :: L.drop (i + 1) ∧ L.take (i + 1) = L.take i ++ [a0] ∧ ins p L = L.take i ++ ins p (L.drop i))) (HL : Hid (la = L.length - i ∧ ca = cap - i ∧ (L.take i).length = i))
    (h1 : ¬ a0.lt p = true) (h2 : (a0.nm.toList == p.nm.toList) = true) (hown1 : w1.ownsRow w.heap.size 62 4 v1 ((L.take i).length + 1) (cellsOf (L.take i) ++ p.cells)) (hB1 : Below w.heap.size w w1) (ho' : ca = 1 ∨ o' = off + i * 4 + 4) (hcc : cc = ca - 1) :
    MR w b off cap b2 o2 p L (.slice (some ⟨b, o', none⟩) (la - 1) cc) (.slice (some ⟨b2, o2, none⟩) 0 0) v1 w1 := by
  obtain ⟨hD, hT, hins⟩ := HH.out
  obtain ⟨hla, hca, hlen⟩ := HL.out
  refine ⟨i + 1, o', 0, L.take i ++ [p], by omega, fun h => by omega, by rw [hcc, hla, hca, Nat.sub_sub, Nat.sub_sub], rfl, .inr ⟨rfl, ?_⟩, ?_, hB1⟩
  · rw [hins, hD]; unfold ins; rw [if_neg h1, if_pos h2]; simp
  · rw [cellsOf_snoc]; simpa using hown1
theorem mr_c {w w1 : World} {b off cap b2 o2 i la ca : Nat} {p a0 : Pr} {L : List Pr} {v1 : Value} (hi : i < L.length) (hcap : L.length ≤ cap)
    (HH : Hid (L.drop i = a0 :: L.drop (i + 1) ∧ L.take (i + 1) = L.take i ++ [a0] ∧ ins p L = L.take i ++ ins p (L.drop i))) (HL : Hid (la = L.length - i ∧ ca = cap - i ∧ (L.take i).length = i))
    (h1 : ¬ a0.lt p = true) (h2 : ¬ (a0.nm.toList == p.nm.toList) = true) (hown1 : w1.ownsRow w.heap.size 62 4 v1 ((L.take i).length + 1) (cellsOf (L.take i) ++ p.cells)) (hB1 : Below w.heap.size w w1) :
    MR w b off cap b2 o2 p L (.slice (some ⟨b, off + i * 4, none⟩) la ca) (.slice (some ⟨b2, o2, none⟩) 0 0) v1 w1 := by
  obtain ⟨hD, hT, hins⟩ := HH.out
  obtain ⟨hla, hca, hlen⟩ := HL.out
  refine ⟨i, off + i * 4, 0, L.take i ++ [p], by omega, fun h => rfl, by rw [hla, hca], rfl, .inr ⟨rfl, ?_⟩, ?_, hB1⟩
  · rw [hins, hD]; conv => rhs; unfold ins
    rw [if_neg h1, if_neg h2]; simp
  · rw [cellsOf_snoc]; simpa using hown1
theorem lies_cells {w : World} {b o : Nat} {M : List Pr} (h : ∀ k p, M[k]? = some p → w.cell? ⟨b, o + k * 4, none⟩ = some (.string p.nm) ∧ w.cell? ⟨b, o + k * 4 + 1, none⟩ = some (.int .i64 p.t) ∧ w.cell? ⟨b, o + k * 4 + 2, none⟩ = some (.int .i64 p.n) ∧ w.cell? ⟨b, o + k * 4 + 3, none⟩ = some (.string p.s)) :
    ∀ j u, (cellsOf M)[j]? = some u → w.cell? ((⟨b, o, none⟩ : Addr).add j) = some u := by
  induction M generalizing o with
  | nil => intro j u hu; simp [cellsOf] at hu
  | cons a r ih =>
    intro j u hu
    obtain ⟨c0, c1, c2, c3⟩ := h 0 a rfl
    rw [Addr.add_lit]
    simp only [Nat.zero_mul, Nat.add_zero] at c0 c1 c2 c3
    match j, hu with
    | 0, hu => simp [cellsOf, Pr.cells] at hu; subst hu; exact c0
    | 1, hu => simp [cellsOf, Pr.cells] at hu; subst hu; exact c1
    | 2, hu => simp [cellsOf, Pr.cells] at hu; subst hu; exact c2
    | 3, hu => simp [cellsOf, Pr.cells] at hu; subst hu; exact c3
    | k + 4, hu =>
      have hu' : (cellsOf r)[k]? = some u := by simpa [cellsOf, Pr.cells] using hu
      have := ih (o := o + 4) (fun k p hp => by
        have := h (k + 1) p (by simpa using hp)
        rw [show o + (k + 1) * 4 = o + 4 + k * 4 by omega] at this
        exact this) k u hu'
      rw [Addr.add_lit] at this
      rw [show o + (k + 4) = o + 4 + k by omega]; exact this
theorem Lies.drop {w : World} {b off : Nat} {L : List Pr} (h : Lies w b off L) (i : Nat) : Lies w b (off + i * 4) (L.drop i) := fun k p hp => by
  have := h (i + k) p (by simpa using hp)
  rw [show off + (i + k) * 4 = off + i * 4 + k * 4 by omega] at this
  exact this

set_option maxHeartbeats 4000000 in
set_option maxRecDepth 100000 in
theorem merged_some (b off cap b2 o2 : Nat) (p : Pr) (L : List Pr) (w : World) (hb : b < w.heap.size) (hL : Lies w b off L) (hn : L.length ≤ 8) (hcap : L.length ≤ cap) (hb2 : b2 < w.heap.size) (hp : Lies w b2 o2 [p]) :
    Calls Tryz.prog 142 #[.slice (some ⟨b, off, none⟩) L.length cap, .slice (some ⟨b2, o2, none⟩) 1 1] w fun e w' => ∃ v, e = .returned v ∧ w'.ownsRow w.heap.size 62 4 v (ins p L).length (cellsOf (ins p L)) ∧ Below w.heap.size w w' := by
  obtain ⟨i0, hi0, hz0, hz1, hz2⟩ := info_parts info33
  go_enter Tryz.func142, Tryz.ntmps142
  go_wp2
  go_loopw [0, 1, 5] (fun a bb all wr => MR w b off cap b2 o2 p L a bb all wr) (fun a bb _ _ => slen a + slen bb)
  case atStart => exact ⟨0, off, 1, [], Nat.zero_le _, fun _ => by omega, rfl, rfl, .inl ⟨rfl, rfl, rfl⟩, World.ownsRow_nil _ _ _ _, Below.refl _ _⟩
  case round =>
    obtain ⟨i, o, nb, xs, hi, ho, rfl, rfl, hst, hown, hB⟩ := hrel
    obtain ⟨q0, q1, q2, q3⟩ := hp 0 p rfl
    simp only [Nat.zero_mul, Nat.add_zero] at q0 q1 q2 q3
    have f0 := (hB.cell (p := ⟨b2, o2, none⟩) hb2).trans q0
    have f1 := (hB.cell (p := ⟨b2, o2 + 1, none⟩) hb2).trans q1
    have f2 := (hB.cell (p := ⟨b2, o2 + 2, none⟩) hb2).trans q2
    have f3 := (hB.cell (p := ⟨b2, o2 + 3, none⟩) hb2).trans q3
    clear q0 q1 q2 q3
    have hbase := hB.size
    rcases hst with ⟨rfl, rfl, hins⟩ | ⟨rfl, hins⟩
    · by_cases hlt : i < L.length
      · obtain rfl := ho hlt
        obtain ⟨a0, ha0⟩ : ∃ a0, L[i]? = some a0 := ⟨L[i], by simp [hlt]⟩
        obtain ⟨c0, c1, c2, c3⟩ := hL i a0 ha0
        have d0 := (hB.cell (p := ⟨b, off + i * 4, none⟩) hb).trans c0
        have d1 := (hB.cell (p := ⟨b, off + i * 4 + 1, none⟩) hb).trans c1
        have d2 := (hB.cell (p := ⟨b, off + i * 4 + 2, none⟩) hb).trans c2
        have d3 := (hB.cell (p := ⟨b, off + i * 4 + 3, none⟩) hb).trans c3
        have hD : L.drop i = a0 :: L.drop (i + 1) := drop_at ha0
        have hT : L.take (i + 1) = L.take i ++ [a0] := by
          obtain ⟨hk, rfl⟩ := List.getElem?_eq_some_iff.1 ha0
          exact List.take_succ_eq_append_getElem hk
        have HH : Hid (L.drop i = a0 :: L.drop (i + 1) ∧ L.take (i + 1) = L.take i ++ [a0] ∧ ins p L = L.take i ++ ins p (L.drop i)) := ⟨hD, hT, hins⟩
        obtain ⟨la, hla⟩ : ∃ la, la = L.length - i := ⟨_, rfl⟩
        obtain ⟨ca, hca⟩ : ∃ ca, ca = cap - i := ⟨_, rfl⟩
        have hl0 : 0 < la := by omega
        have hlc : la ≤ ca := by omega
        have hlen : (L.take i).length = i := by simp; omega
        have HL : Hid (la = L.length - i ∧ ca = cap - i ∧ (L.take i).length = i) := ⟨hla, hca, hlen⟩
        have HO : Hid (wr.ownsRow w.heap.size 62 4 u5 (L.take i).length (cellsOf (L.take i))) := hown
        have hi8 : i < 8 := by omega
        rw [← hla, ← hca]
        clear hla hca hlen hD hT hins ha0 c0 c1 c2 c3 hL hp
        have HM : Hid ((L.take i).length + 1 ≤ maxLen ∧ ((L.take i).length + 1) * 48 ≤ 140737488355328) := by
          rw [HL.out.2.2]; unfold maxLen; exact ⟨by omega, by omega⟩
        have hl1 : 1 ≤ (la : Int) := by omega
        have HX : Hid (i < L.length ∧ L.length ≤ cap) := ⟨hlt, hcap⟩
        have HB : Hid (Below w.heap.size w wr) := hB
        clear hown hlt hcap hi ho
        by_cases h1 : a0.lt p = true
        · have h1' : Op.bytesLess a0.nm.toList p.nm.toList = true := h1
          have H1 : Hid (a0.lt p = true) := h1
          clear h1
          go_wp2_with fail
          go_quiet (fail)
          go_wp2_with fail
          by_cases hc1 : ca = 1
          all_goals
            go_region_law (refine step_append_own rfl (.tmp 23) (.tmp 27) 55 rfl w.heap.size 62 i0 _ 4 48 Tryz.underlying55 hi0 hz0 hz1 hz2 rfl (by decide) u5 (L.take i).length (cellsOf (L.take i)) (by simp [Act.eval, Act.put]) (own_al HO.out rfl _) ⟨wr.heap.size, 0, none⟩ 1 1 a0.cells (by simp [Act.eval, Act.put]) rfl (cells_new _ a0) (cells_one a0) HM.out.1 HM.out.2 (by simp; omega) ?_; intro v1 w1 hown1 hgrow1)
            all_goals
              go_wp2
              refine ⟨?_, ?_⟩
              · (repeat apply Exists.intro)
                refine ⟨?_, rfl⟩
                exact mr_a HX.out.1 HX.out.2 HH HL H1.out hown1 ((b_alloc ((b_drewN HB.out _).drew) _).grown hgrow1 (b_alloc ((b_drewN HB.out _).drew) _).size (fun k hk => (HO.out.lt k hk).1)) (by first | exact .inl hc1 | exact .inr rfl) (by omega)
              · simp [Act.put, slen]
                try omega
        · have h1' : Op.bytesLess a0.nm.toList p.nm.toList = false := by simpa [Pr.lt] using h1
          have H1 : Hid (¬ a0.lt p = true) := h1
          clear h1
          by_cases h2 : (a0.nm.toList == p.nm.toList) = true
          · by_cases hc1 : ca = 1
            all_goals
              go_wp2_with fail
              go_quiet (fail)
              go_wp2_with fail
              go_quiet (fail)
              go_wp2_with fail
              go_region_law (refine step_append_own rfl (.tmp 42) (.tmp 46) 55 rfl w.heap.size 62 i0 _ 4 48 Tryz.underlying55 hi0 hz0 hz1 hz2 rfl (by decide) u5 (L.take i).length (cellsOf (L.take i)) (by simp [Act.eval, Act.put]) (own_al HO.out rfl _) ⟨wr.heap.size, 0, none⟩ 1 1 p.cells (by simp [Act.eval, Act.put]) rfl (cells_new _ p) (cells_one p) HM.out.1 HM.out.2 (by simp; omega) ?_; intro v1 w1 hown1 hgrow1)
              all_goals
                refine ⟨?_, ?_⟩
                · (repeat apply Exists.intro)
                  refine ⟨?_, rfl⟩
                  exact mr_b HX.out.1 HX.out.2 HH HL H1.out h2 hown1 ((b_alloc (b_drewN HB.out _) _).grown hgrow1 (b_alloc (b_drewN HB.out _) _).size (fun k hk => (HO.out.lt k hk).1)) (by first | exact .inl hc1 | exact .inr rfl) (by omega)
                · simp [Act.put, slen]
                  try omega
          · have h2' : (a0.nm.toList == p.nm.toList) = false := by simpa using h2
            have H2 : Hid (¬ (a0.nm.toList == p.nm.toList) = true) := h2
            clear h2
            go_wp2_with fail
            go_quiet (fail)
            go_wp2_with fail
            go_quiet (fail)
            go_wp2_with fail
            go_region_law (refine step_append_own rfl (.tmp 42) (.tmp 46) 55 rfl w.heap.size 62 i0 _ 4 48 Tryz.underlying55 hi0 hz0 hz1 hz2 rfl (by decide) u5 (L.take i).length (cellsOf (L.take i)) (by simp [Act.eval, Act.put]) (own_al HO.out rfl _) ⟨wr.heap.size, 0, none⟩ 1 1 p.cells (by simp [Act.eval, Act.put]) rfl (cells_new _ p) (cells_one p) HM.out.1 HM.out.2 (by simp; omega) ?_; intro v1 w1 hown1 hgrow1)
            all_goals
              refine ⟨?_, ?_⟩
              · (repeat apply Exists.intro)
                refine ⟨?_, rfl⟩
                exact mr_c HX.out.1 HX.out.2 HH HL H1.out H2.out hown1 ((b_alloc (b_drewN HB.out _) _).grown hgrow1 (b_alloc (b_drewN HB.out _) _).size (fun k hk => (HO.out.lt k hk).1))
              · simp [Act.put, slen]
                try omega
      · obtain rfl : i = L.length := by omega
        have hT : L.take L.length = L := List.take_length
        have H1 : Hid (ins p L = L ++ [p]) := by
          show _ = _
          rw [hins, hT, List.drop_length]; rfl
        rw [hT] at hown
        have e0 : L.length - L.length = 0 := Nat.sub_self _
        rw [e0]
        have HM : Hid (L.length + 0 ≤ maxLen ∧ (L.length + 0) * 48 ≤ 140737488355328 ∧ L.length + 0 + 1 ≤ maxLen ∧ (L.length + 0 + 1) * 48 ≤ 140737488355328) := by
          unfold maxLen; exact ⟨by omega, by omega, by omega, by omega⟩
        have HO : Hid (wr.ownsRow w.heap.size 62 4 u5 L.length (cellsOf L)) := hown
        have HP : Hid (Lies w b2 o2 [p]) := hp
        have HB : Hid (Below w.heap.size w wr) := hB
        obtain ⟨cc, hcc⟩ : ∃ cc, cc = cap - L.length := ⟨_, rfl⟩
        rw [← hcc]
        clear hT hins e0 ho hown hL hp hB hcc
        go_wp2_with (first
          | (at_builtin; refine wpList_append_own _ rfl (.tmp 50) (.tmp 51) 55 rfl w.heap.size 62 i0 _ 4 48 Tryz.underlying55 hi0 hz0 hz1 hz2 rfl (by decide) u5 L.length (cellsOf L) rfl HO.out ⟨b, o, none⟩ 0 cc [] rfl rfl (by intro j u hu; simp at hu) (by intro u hu; simp at hu) HM.out.1 HM.out.2.1 hbase ?_; intro v1 w1 hown1 hgrow1 _)
          | (at_builtin; refine wpList_append_own _ rfl (.tmp 52) (.tmp 53) 55 rfl w.heap.size 62 i0 _ 4 48 Tryz.underlying55 hi0 hz0 hz1 hz2 rfl (by decide) v1 (L.length + 0) (cellsOf L ++ []) rfl hown1 ⟨b2, o2, none⟩ 1 1 (cellsOf [p]) rfl rfl (lies_cells (HP.out.on hb2 (HB.out.grown hgrow1 HB.out.size (fun k hk => (HO.out.lt k hk).1)))) (cellsOf_one [p]) HM.out.2.2.1 HM.out.2.2.2 (Nat.le_trans hbase hgrow1.size) ?_; intro v2 w2 hown2 hgrow2 _))
        go_ret
        refine ⟨v2, rfl, ?_, ?_⟩
        · rw [H1.out, cellsOf_app]; simpa using hown2
        · have h1 := HB.out.grown hgrow1 HB.out.size (fun k hk => (HO.out.lt k hk).1)
          exact h1.grown hgrow2 h1.size (fun k hk => (hown1.lt k hk).1)
    · have H1 : Hid (xs ++ L.drop i = ins p L) := hins
      obtain ⟨la, hla⟩ : ∃ la, la = L.length - i := ⟨_, rfl⟩
      obtain ⟨cc, hcc⟩ : ∃ cc, cc = cap - i := ⟨_, rfl⟩
      rw [← hla, ← hcc]
      have hx9 : xs.length + la ≤ 9 := by
        have h1 : (xs ++ L.drop i).length = (ins p L).length := by rw [hins]
        have h2 := ins_len p L
        simp at h1; omega
      have HM : Hid (xs.length + la ≤ maxLen ∧ (xs.length + la) * 48 ≤ 140737488355328 ∧ xs.length + la + 0 ≤ maxLen ∧ (xs.length + la + 0) * 48 ≤ 140737488355328) := by
        unfold maxLen; exact ⟨by omega, by omega, by omega, by omega⟩
      have HO : Hid (wr.ownsRow w.heap.size 62 4 u5 xs.length (cellsOf xs)) := hown
      have HB : Hid (Below w.heap.size w wr) := hB
      have HC : Hid (∀ j u, (cellsOf (L.drop i))[j]? = some u → wr.cell? ((⟨b, o, none⟩ : Addr).add j) = some u) := by
        show ∀ j u, _
        by_cases h : i < L.length
        · obtain rfl := ho h
          exact lies_cells ((hL.drop i).on hb hB)
        · rw [List.drop_eq_nil_of_le (by omega)]
          intro j u hu; simp [cellsOf] at hu
      have HLn : Hid ((cellsOf (L.drop i)).length = la * 4) := by
        show _ = _
        rw [cellsOf_len, hla]; simp
      clear hins ho hown hL hp hB hcc hla
      go_wp2_with (first
        | (at_builtin; refine wpList_append_own _ rfl (.tmp 50) (.tmp 51) 55 rfl w.heap.size 62 i0 _ 4 48 Tryz.underlying55 hi0 hz0 hz1 hz2 rfl (by decide) u5 xs.length (cellsOf xs) rfl HO.out ⟨b, o, none⟩ la cc (cellsOf (L.drop i)) rfl HLn.out HC.out (cellsOf_one _) HM.out.1 HM.out.2.1 hbase ?_; intro v1 w1 hown1 hgrow1 _)
        | (at_builtin; refine wpList_append_own _ rfl (.tmp 52) (.tmp 53) 55 rfl w.heap.size 62 i0 _ 4 48 Tryz.underlying55 hi0 hz0 hz1 hz2 rfl (by decide) v1 (xs.length + la) (cellsOf xs ++ cellsOf (L.drop i)) rfl hown1 ⟨b2, o2, none⟩ 0 0 [] rfl rfl (by intro j u hu; simp at hu) (by intro u hu; simp at hu) HM.out.2.2.1 HM.out.2.2.2 (Nat.le_trans hbase hgrow1.size) ?_; intro v2 w2 hown2 hgrow2 _))
      all_goals
        go_ret
        refine ⟨v2, rfl, ?_, ?_⟩
        · rw [← H1.out, cellsOf_app]
          have e : (xs ++ L.drop i).length = xs.length + la := by
            have h := HLn.out
            rw [cellsOf_len] at h
            rw [List.length_append]; omega
          rw [e]; simpa using hown2
        · have h1 := HB.out.grown hgrow1 HB.out.size (fun k hk => (HO.out.lt k hk).1)
          exact h1.grown hgrow2 h1.size (fun k hk => (hown1.lt k hk).1)

end Go.Proofs.YtpmblbhemcippaaGreatDoor

/-
  Records that are right, in plain words: properties that rise by name, each right by itself; with one more.
-/
namespace Go.Proofs.YtpmblbhemcippaaGreatDoor
open Go.RowKit
set_option linter.unusedVariables false
set_option linter.unusedSimpArgs false

def Pr.ok (p : Pr) : Prop := nErr p.l = 0 ∧ p.bad = 0
theorem chk_ok (L : List Pr) : ∀ o, chk o L = 0 → ∀ p ∈ L, p.ok := by
  induction L with
  | nil => intro o _ p hp; simp at hp
  | cons a r ih =>
    intro o h p hp
    have h1 : nErr a.l = 0 := by
      by_cases h1 : nErr a.l = 0
      · exact h1
      · rw [chk_name h1] at h; exact absurd h h1
    have h2 : a.bad = 0 := by
      by_cases h2 : a.bad = 0
      · exact h2
      · rw [chk_bad h1 h2] at h; exact absurd h h2
    rcases List.mem_cons.1 hp with rfl | hp
    · exact ⟨h1, h2⟩
    · cases o with
      | none => rw [chk_first h1 h2] at h; exact ih _ h p hp
      | some q =>
        by_cases h3 : a.low q = true
        · rw [chk_low h1 h2 h3] at h; exact absurd h (by decide)
        · rw [chk_up h1 h2 (by simpa using h3)] at h; exact ih _ h p hp
theorem lt_iff (p q : Pr) : p.lt q = true ↔ Lib.compareBytes p.nm.toList q.nm.toList < 0 := by
  unfold Pr.lt; rw [less_cmp]; simp
theorem lt_ne {p q : Pr} (h : p.lt q = true) : ¬ p.nm.toList = q.nm.toList := by
  intro e
  have h1 := (lt_iff p q).1 h
  have h2 := (cmpB_zero p.nm.toList q.nm.toList).2 e
  omega
theorem lt_asym {p q : Pr} (h : p.lt q = true) : ¬ q.lt p = true := by
  intro h2
  have h1 := (lt_iff p q).1 h
  have h3 := (lt_iff q p).1 h2
  have := cmpB_anti p.nm.toList q.nm.toList
  omega
theorem lt_trans {p q r : Pr} (h1 : p.lt q = true) (h2 : q.lt r = true) : p.lt r = true := by
  rw [lt_iff] at *
  have h3 := cmpB_trans p.nm.toList q.nm.toList r.nm.toList (by omega) (by omega)
  rcases Int.lt_or_eq_of_le h3 with h | h
  · exact h
  · have e := (cmpB_zero _ _).1 h
    rw [e] at h1
    have := cmpB_anti q.nm.toList r.nm.toList
    omega
theorem low_lt {p q : Pr} : p.low q = false ↔ q.lt p = true := by
  unfold Pr.low
  rw [lt_iff, less_cmp]
  have ha := cmpB_anti p.nm.toList q.nm.toList
  have hz := cmpB_zero p.nm.toList q.nm.toList
  have hr := cmpB_range p.nm.toList q.nm.toList
  constructor
  · intro h
    rw [Bool.or_eq_false_iff] at h
    have h1 : ¬ Lib.compareBytes p.nm.toList q.nm.toList < 0 := by simpa using h.1
    have h2 : ¬ p.nm.toList = q.nm.toList := by simpa using h.2
    have h3 : ¬ Lib.compareBytes p.nm.toList q.nm.toList = 0 := fun e => h2 (hz.1 e)
    omega
  · intro h
    rw [Bool.or_eq_false_iff]
    refine ⟨by simp; omega, ?_⟩
    have : ¬ p.nm.toList = q.nm.toList := fun e => by have := hz.2 e; omega
    simpa using this
def SrtP (L : List Pr) : Prop := (∀ p ∈ L, p.ok) ∧ L.Pairwise fun a b => a.lt b = true
theorem chk_srt (L : List Pr) : ∀ q : Pr, chk (some q) L = 0 ↔ SrtP L ∧ ∀ p ∈ L, q.lt p = true := by
  induction L with
  | nil => intro q; exact ⟨fun _ => ⟨⟨fun p hp => by simp at hp, List.Pairwise.nil⟩, fun p hp => by simp at hp⟩, fun _ => rfl⟩
  | cons a r ih =>
    intro q
    constructor
    · intro h
      have hok := chk_ok (a :: r) _ h
      have ha := hok a (by simp)
      have h3 : a.low q = false := by
        cases h4 : a.low q
        · rfl
        · rw [chk_low ha.1 ha.2 h4] at h; exact absurd h (by decide)
      rw [chk_up ha.1 ha.2 h3] at h
      obtain ⟨hs, hl⟩ := (ih a).1 h
      have hqa := low_lt.1 h3
      refine ⟨⟨hok, List.pairwise_cons.2 ⟨hl, hs.2⟩⟩, fun p hp => ?_⟩
      rcases List.mem_cons.1 hp with rfl | hp
      · exact hqa
      · exact lt_trans hqa (hl p hp)
    · rintro ⟨⟨hok, hp⟩, hl⟩
      have ha := hok a (by simp)
      rw [chk_up ha.1 ha.2 (low_lt.2 (hl a (by simp)))]
      obtain ⟨h1, h2⟩ := List.pairwise_cons.1 hp
      exact (ih a).2 ⟨⟨fun p hp => hok p (by simp [hp]), h2⟩, h1⟩
theorem rErr_srt (L : List Pr) : rErr L = 0 ↔ SrtP L ∧ L.length ≤ 8 := by
  unfold rErr
  constructor
  · intro h
    split at h
    · exact absurd h (by decide)
    · refine ⟨?_, by omega⟩
      cases L with
      | nil => exact ⟨fun p hp => by simp at hp, List.Pairwise.nil⟩
      | cons a r =>
        have hok := chk_ok _ _ h
        have ha := hok a (by simp)
        rw [chk_first ha.1 ha.2] at h
        obtain ⟨h1, h2⟩ := (chk_srt r a).1 h
        exact ⟨hok, List.pairwise_cons.2 ⟨h2, h1.2⟩⟩
  · rintro ⟨⟨hok, hp⟩, hl⟩
    rw [if_neg (by omega)]
    cases L with
    | nil => rfl
    | cons a r =>
      have ha := hok a (by simp)
      rw [chk_first ha.1 ha.2]
      obtain ⟨h1, h2⟩ := List.pairwise_cons.1 hp
      exact (chk_srt r a).2 ⟨⟨fun p hp => hok p (by simp [hp]), h2⟩, h1⟩
theorem ins_mem (p : Pr) (L : List Pr) : ∀ q ∈ ins p L, q = p ∨ q ∈ L := by
  induction L with
  | nil => intro q hq; simp [ins] at hq; exact .inl hq
  | cons a r ih =>
    intro q hq
    unfold ins at hq
    split at hq
    · rcases List.mem_cons.1 hq with rfl | h
      · exact .inr (by simp)
      · rcases ih q h with h | h
        · exact .inl h
        · exact .inr (by simp [h])
    · split at hq
      · rcases List.mem_cons.1 hq with rfl | h
        · exact .inl rfl
        · exact .inr (by simp [h])
      · rcases List.mem_cons.1 hq with rfl | h
        · exact .inl rfl
        · exact .inr h
theorem ins_sz {p : Pr} {L : List Pr} (h : Sz L) (hp : Sz [p]) : Sz (ins p L) := fun q hq => by
  rcases ins_mem p L q hq with rfl | h'
  · exact hp q (by simp)
  · exact h q h'
theorem not_lt_eq {a p : Pr} (h1 : ¬ a.lt p = true) (h2 : ¬ (a.nm.toList == p.nm.toList) = true) : p.lt a = true := by
  rw [lt_iff] at *
  have ha := cmpB_anti a.nm.toList p.nm.toList
  have hr := cmpB_range a.nm.toList p.nm.toList
  have h3 : ¬ Lib.compareBytes a.nm.toList p.nm.toList = 0 := fun e => h2 (by simpa using (cmpB_zero _ _).1 e)
  omega
def look (nm : List UInt8) (L : List Pr) : Option Pr := L.find? fun q => q.nm.toList == nm
theorem nErr_short {l : List UInt8} (h : nErr l = 0) : l.length ≤ 8 := by
  unfold nErr at h
  by_cases h1 : l = []
  · subst h1; simp
  · rw [if_neg h1] at h
    by_cases h2 : 8 < l.length
    · rw [if_pos h2] at h; omega
    · omega
theorem bad_short {p : Pr} (h : p.bad = 0) : p.s.data.toList.length ≤ 20 := by
  unfold Pr.bad vErr at h
  split at h
  · split at h
    · split at h
      · unfold tErr at h
        split at h
        · omega
        · omega
      · split at h
        · rename_i h2; rw [h2]; simp
        · omega
    · omega
  · omega
theorem ok_sz {p : Pr} (h : p.ok) : p.nm.size ≤ maxLen ∧ p.s.size ≤ maxLen := by
  have h1 := nErr_short h.1
  have h2 := bad_short h.2
  have e1 : p.nm.size = p.nm.data.toList.length := rfl
  have e2 : p.s.size = p.s.data.toList.length := rfl
  unfold Pr.l at h1
  unfold maxLen
  omega
theorem sz_of {L : List Pr} (h : rErr L = 0) : Sz L := fun p hp => ok_sz (((rErr_srt L).1 h).1.1 p hp)
end Go.Proofs.YtpmblbhemcippaaGreatDoor
