/-
  slices.Insert of a field: and where the row lies behind it.
-/
import Derived.Test.YtpmblbhemcippaaGreatDoorM14
import Derived.Test.YtpmblbhemcippaaGreatDoorM16
namespace Go.Proofs.YtpmblbhemcippaaGreatDoor
open Go.RowKit
set_option linter.unusedVariables false
set_option linter.unusedSimpArgs false

def Moved (w : World) (v v' : Value) : Prop := v'.ownBlock = v.ownBlock ∨ ∃ g, v'.ownBlock = some g ∧ w.heap.size ≤ g
theorem append_at {P : Program} (w : World) (base : Nat) (t ty e : TypeId) (i : TypeInfo) (z : Value) (size bytes : Nat) (ht : P.underlying t = some (.slice e)) (hi : P.info? e = some i) (hz : i.zero = some z)
    (hsize : i.size = size) (hby : i.bytes = bytes) (hzs : z.cells.size = size) (hsz : 0 < size) (v : Value) (n : Nat) (xs : List Value) (hown : w.ownsRow base e size v n xs)
    (a : Addr) (m c : Nat) (hm : 0 < m) (news : List Value) (hl : news.length = m * size) (hnews : ∀ j u, news[j]? = some u → w.cell? (a.add j) = some u) (h1 : ∀ u ∈ news, u.oneCell' = true)
    (h63 : n + m ≤ maxLen) (hbytes : (n + m) * bytes ≤ 140737488355328) (hbase : base ≤ w.heap.size) :
    ∃ v' w', (Builtin.append_ #[t, t] ty #[v, .slice (some a) m c]).run P w = .ok v' w' ∧ w'.ownsRow base e size v' (n + m) (xs ++ news) ∧ w.grownBy w' v.ownBlock ∧ Moved w v v' ∧ v'.ownBlock ≠ none := by
  obtain ⟨v', w', r1, r2, r3, r4⟩ := run_append_own (P := P) w base t ty e i z size bytes ht hi hz hsize hby hzs hsz v n xs hown a m c news hl hnews h1 h63 hbytes hbase
  have hnn : v'.ownBlock ≠ none := by
    rcases r2.2 with ⟨_, h0⟩ | ⟨g, cap, cur, rfl, _⟩
    · omega
    · simp [Value.ownBlock]
  refine ⟨v', w', r1, r2, r3, ?_, hnn⟩
  have hsmall : n + m ≤ 9223372036854775807 := by simp only [maxLen] at h63; omega
  rcases hown.2 with ⟨rfl, rfl⟩ | ⟨g, cap, cur, rfl, hbg, hg, hnc, hcm, hcs, htake⟩
  · have hx : xs = [] := List.eq_nil_of_length_eq_zero (by simpa using hown.1)
    subst hx
    obtain ⟨v2, w2, q1, q2, _, _⟩ := run_append_own (P := P) w w.heap.size t ty e i z size bytes ht hi hz hsize hby hzs hsz (.slice none 0 0) 0 [] (World.ownsRow_nil _ _ _ _) a m c news hl hnews h1 h63 hbytes (Nat.le_refl _)
    rw [r1] at q1
    injection q1 with e1 e2
    subst e1
    rcases q2.2 with ⟨_, h0⟩ | ⟨g, cap, cur, rfl, hge, _⟩
    · omega
    · exact .inr ⟨g, rfl, hge⟩
  · subst hsize hby
    by_cases hroom : n + m ≤ cap
    · have hfit : n * i.size + news.length ≤ cur.size := by rw [hl, hcs, ← Nat.add_mul]; exact Nat.mul_le_mul_right _ hroom
      have hr := run_append_room (P := P) w t ty e i ht hi g n cap cur hg a m c news hl hnews h1 hroom hfit
      rw [r1] at hr
      injection hr with e1 e2
      subst e1
      exact .inl rfl
    · have holds : ∀ j u, xs[j]? = some u → w.cell? ((⟨g, 0, none⟩ : Addr).add j) = some u := hown.cells (g := g) rfl
      have hr := run_append_grow (P := P) w t ty e i z ht hi hz ⟨g, 0, none⟩ n cap xs hown.1 holds a m c news hl hnews (by omega) (by omega) (growslice_fits (by omega) hbytes)
      rw [r1] at hr
      injection hr with e1 e2
      subst e1
      exact .inr ⟨_, rfl, Nat.le_refl _⟩
set_option maxHeartbeats 4000000 in
set_option maxRecDepth 100000 in
theorem insertM_end {w : World} {base : Nat} {v : Value} {all : List Fd} (h : w.ownsRow base 28 4 v all.length (cellsF all)) (vb : Nat) (f : Fd) (hf : ∀ j u, f.cells[j]? = some u → w.cell? ((⟨vb, 0, none⟩ : Addr).add j) = some u) (hbase : base ≤ w.heap.size) (hn : all.length ≤ 96) :
    Calls Tryz.prog 112 #[v, .int .i64 all.length, .slice (some ⟨vb, 0, none⟩) 1 1] w fun e w' => ∃ v', e = .returned v' ∧ w'.ownsRow base 28 4 v' (all.length + 1) (cellsF all ++ f.cells) ∧ w.grownBy w' v.ownBlock ∧ Moved w v v' := by
  obtain ⟨i0, hi0, hz0, hz1, hz2⟩ := info_parts info59
  have HM : Hid (all.length + 1 ≤ maxLen ∧ (all.length + 1) * 32 ≤ 140737488355328) := by unfold maxLen; exact ⟨by omega, by omega⟩
  have HO : Hid (w.ownsRow base 28 4 v all.length (cellsF all) ∧ ∀ j u, f.cells[j]? = some u → w.cell? ((⟨vb, 0, none⟩ : Addr).add j) = some u) := ⟨h, hf⟩
  rcases h.2 with ⟨rfl, h0⟩ | ⟨g, cap, cur, rfl, hb, hg, hle, hcm, hcs, ht⟩
  · rw [h0] at HM HO ⊢
    clear h hf hn h0
    go_enter Tryz.func112, Tryz.ntmps112
    go_wp2_with (at_builtin; refine wpList_append_E rfl (.tmp 23) (.tmp 24) 30 rfl _ _ rfl rfl (append_at w base 30 _ 28 i0 _ 4 32 Tryz.underlying30 hi0 hz0 hz1 hz2 rfl (by decide) _ 0 (cellsF all) HO.out.1 ⟨vb, 0, none⟩ 1 1 (by decide) f.cells rfl HO.out.2 (fcells_one f) HM.out.1 HM.out.2 hbase) ?_; rintro v1 w1 ⟨hown1, hgrow1, hmv, _⟩)
    go_ret
    exact ⟨_, rfl, hown1, hgrow1, hmv⟩
  · have hnc : (all.length : Int) ≤ (cap : Int) := by omega
    unfold maxLen at hcm
    clear h hf hb hg hcs ht
    generalize all.length = n at *
    go_enter Tryz.func112, Tryz.ntmps112
    go_wp2_with (at_builtin; refine wpList_append_E rfl (.tmp 23) (.tmp 24) 30 rfl _ _ rfl rfl (append_at w base 30 _ 28 i0 _ 4 32 Tryz.underlying30 hi0 hz0 hz1 hz2 rfl (by decide) _ n (cellsF all) HO.out.1 ⟨vb, 0, none⟩ 1 1 (by decide) f.cells rfl HO.out.2 (fcells_one f) HM.out.1 HM.out.2 hbase) ?_; rintro v1 w1 ⟨hown1, hgrow1, hmv, _⟩)
    all_goals
      go_ret
      exact ⟨_, rfl, hown1, hgrow1, hmv⟩

theorem insertM_any {w : World} {base : Nat} {v : Value} {all : List Fd} (h : w.ownsRow base 28 4 v all.length (cellsF all)) (i : Nat) (hi : i ≤ all.length) (vb : Nat) (f : Fd) (hv : w.heap[vb]? = some (.cells #[.string (bs f.nm), .int .i64 f.t, .bool f.must, .bool f.key] 28 (0, 0))) (hne : v.ownBlock ≠ some vb) (hbase : base ≤ w.heap.size) (hn : all.length ≤ 96) :
    Calls Tryz.prog 112 #[v, .int .i64 i, .slice (some ⟨vb, 0, none⟩) 1 1] w fun e w' => ∃ v', e = .returned v' ∧ w'.ownsRow base 28 4 v' (all.take i ++ f :: all.drop i).length (cellsF (all.take i ++ f :: all.drop i)) ∧ w.grownBy w' v.ownBlock ∧ Moved w v v' := by
  have hlen : (all.take i ++ f :: all.drop i).length = all.length + 1 := by simp; omega
  rw [hlen, cellsF_ins]
  by_cases he : i = all.length
  · subst he
    refine (insertM_end h vb f (fun j u hu => by rw [Addr.add_lit, cell_of_row w vb (0 + j) _ 28 (0, 0) hv]; simpa [Fd.cells] using hu) hbase hn).mono ?_
    rintro e w' ⟨v', rfl, ho, hB, hM⟩
    refine ⟨v', rfl, ?_, hB, hM⟩
    rw [List.take_length, List.drop_length]
    simpa [cellsF] using ho
  · have hlt : i < all.length := by omega
    have hh := h
    rcases h.2 with ⟨rfl, h0⟩ | ⟨g, cap, cur, rfl, hb, hg, hle, hcm, hcs, ht⟩
    · omega
    · have hgb : vb ≠ g := fun e => hne (by simp [Value.ownBlock, e])
      have hsplit : cellsF all = cellsF (all.take i) ++ cellsF (all.drop i) := by rw [← cellsF_app, List.take_append_drop]
      have hx : (cellsF (all.take i)).length = i * 4 := by rw [cellsF_len, List.length_take_of_le hi]
      have hy : (cellsF (all.drop i)).length = (all.length - i) * 4 := by rw [cellsF_len, List.length_drop]
      have hfl : f.cells.length = 4 := rfl
      rw [hsplit] at ht
      by_cases hroom : all.length + 1 ≤ cap
      · refine (insert_room f hg hcs hcm ht hx hy hlt hn hroom (cellsF_one _) hv hgb).mono ?_
        rintro e w' ⟨rfl, w1, e1, e2, e3, e4, rfl⟩
        have hg1 : w1.heap[g]? = some (.cells cur 28 (0, 0)) := by rw [e1]; exact hg
        have hll : (lay (lay cur.toList ((i + 1) * 4) (cellsF (all.drop i))) (i * 4) f.cells).length = cap * 4 := by
          have hc : cur.toList.length = cap * 4 := by simpa using hcs
          have l1 := lay_len (l := cur.toList) (o := (i + 1) * 4) (cs := cellsF (all.drop i)) (by rw [hy, hc]; omega)
          rw [lay_len (by rw [l1, hfl, hc]; omega), l1, hc]
        refine ⟨_, rfl, ⟨by simp only [List.length_append]; omega, .inr ⟨g, cap, _, rfl, hb, setRow_heap w1 g cur _ 28 _ hg1, hroom, hcm, by simpa using hll, ?_⟩⟩, ?_, .inl rfl⟩
        · have e := lay_room cur.toList (cellsF (all.take i)) (cellsF (all.drop i)) (cur.toList.drop (all.length * 4)) f.cells (by rw [← ht, List.take_append_drop]) (by
            have hc : cur.toList.length = cap * 4 := by simpa using hcs
            rw [hfl, List.length_drop, hc]; omega)
          rw [hx, hfl, hy] at e
          rw [show (i + 1) * 4 = i * 4 + 4 by omega, show (all.length + 1) * 4 = i * 4 + 4 + (all.length - i) * 4 by omega]
          simpa using e
        · exact grown_trans (b := w1) ⟨by rw [e2], by rw [e3], by rw [e4], by rw [e1]; exact Nat.le_refl _, fun k _ _ => by rw [e1]⟩ (setRow_grown w1 g _)
      · refine (insert_grow f hg hcs ht hx hy hlt hn hle (by omega) (cellsF_one _) hv).mono ?_
        rintro e w' ⟨G, row, rfl, h1, h2, h3, h4, h5, h6⟩
        refine ⟨_, rfl, ⟨by simp only [List.length_append]; omega, .inr ⟨w.heap.size, G, _, rfl, hbase, h3, h1, h2, by simpa using h4, by simpa using h5⟩⟩, grown_of_below h6 _, .inr ⟨_, rfl, Nat.le_refl _⟩⟩
end Go.Proofs.YtpmblbhemcippaaGreatDoor

/-
  What package change says, in plain functions: what a change makes of a schema, and its fault; and a schema of the call's own behind a pointer.
-/
namespace Go.Proofs.YtpmblbhemcippaaGreatDoor
open Go.RowKit
set_option linter.unusedVariables false
set_option linter.unusedSimpArgs false

structure Ch where
  wh : Int
  nm : Nm
  kd : Kd
  bd : Bd
  fd : Fd
  vt : Int
  vn : Int
  vs : Nm
  tn : Nm
def Ch.cells (c : Ch) : List Value := [.int .i64 c.wh, .string (bs c.nm), .string (bs c.kd.nm), c.kd.vo, c.kd.vf, .string (bs c.bd.nm), .string (bs c.bd.fr), .string (bs c.bd.tt), .int .i64 c.bd.mn, .int .i64 c.bd.mx, .string (bs c.fd.nm), .int .i64 c.fd.t, .bool c.fd.must, .bool c.fd.key, .int .i64 c.vt, .int .i64 c.vn, .string (bs c.vs), .string (bs c.tn)]
abbrev Ch.one (c : Ch) : Value := .agg #[.int .i64 c.wh, .string (bs c.nm), .string (bs c.kd.nm), c.kd.vo, c.kd.vf, .string (bs c.bd.nm), .string (bs c.bd.fr), .string (bs c.bd.tt), .int .i64 c.bd.mn, .int .i64 c.bd.mx, .string (bs c.fd.nm), .int .i64 c.fd.t, .bool c.fd.must, .bool c.fd.key, .int .i64 c.vt, .int .i64 c.vn, .string (bs c.vs), .string (bs c.tn)]
def ChSz (c : Ch) : Prop := (c.kd.nm.length ≤ maxLen ∧ ∀ f ∈ c.kd.fs, f.nm.length ≤ maxLen) ∧ (c.kd.of.length * 16 ≤ 140737488355328 ∧ c.kd.fs.length * 32 ≤ 140737488355328) ∧ c.bd.nm.length ≤ maxLen ∧ c.fd.nm.length ≤ maxLen ∧ c.vs.length ≤ maxLen ∧ c.tn.length ≤ maxLen
def ChIs (w : World) (c : Ch) : Prop := IsS w c.kd.vo c.kd.of ∧ IsF w c.kd.vf c.kd.fs
theorem ChIs.on {w w' : World} {c : Ch} (h : ChIs w c) (hB : Below w.heap.size w w') : ChIs w' c := ⟨h.1.on hB, h.2.on hB⟩

def fdsAt (L : List Kd) (n : Nm) : List Fd := match L[nmAt L n]? with
  | some k => k.fs
  | none => []
def adE (f : Fd) (t n : Int) (s : Nm) : Int := if f.key = true then 3 else if t = 0 then (if f.must = true then 3 else 0) else if vErr t n s = 0 then (if t = f.t then 0 else 8) else vErr t n s
def insA (l : List Fd) (f : Fd) : List Fd := l.take (lo f.nm l) ++ f :: l.drop (lo f.nm l)
def rnF (l : List Fd) (o t : Nm) : List Fd := match l[lo o l]? with
  | some f => insA (l.eraseIdx (lo o l)) { f with nm := t }
  | none => l
def usK (L : List Kd) (n : Nm) : Bool := L.any fun k => hasN k.of n
def usB (B : List Bd) (n : Nm) : Bool := B.any fun x => x.fr == n || x.tt == n
def setFs (L : List Kd) (n : Nm) (g : List Fd) : List Kd := match L[nmAt L n]? with
  | some k => L.set (nmAt L n) { k with fs := g }
  | none => L
def bAt (B : List Bd) (n : Nm) : Nat := (idxB n B 0).toNat
def setR (B : List Bd) (n : Nm) (mn mx : Int) : List Bd := match B[bAt B n]? with
  | some x => B.set (bAt B n) { x with mn := mn, mx := mx }
  | none => B
def e2 (L : List Kd) (B : List Bd) (n : Nm) : Int := if idxK n L 0 = -1 then 5 else if usK L n = true then 6 else if usB B n = true then 6 else 0
def e3 (L : List Kd) (c : Ch) : Int := if idxK c.nm L 0 = -1 then 5 else if fnd c.fd.nm (fdsAt L c.nm) = true then 7 else adE c.fd c.vt c.vn c.vs
def e4 (L : List Kd) (n f : Nm) : Int := if idxK n L 0 = -1 then 5 else if fnd f (fdsAt L n) = true then 0 else 5
def e6 (B : List Bd) (n : Nm) : Int := if idxB n B 0 = -1 then 5 else 0
def e7 (L : List Kd) (n f t : Nm) : Int := if e4 L n f = 0 then (if nErr t = 0 then (if fnd t (fdsAt L n) = true then 7 else 0) else nErr t) else e4 L n f
def cE (L : List Kd) (B : List Bd) (c : Ch) : Int :=
  if c.wh = 1 then 0 else if c.wh = 2 then e2 L B c.nm else if c.wh = 3 then e3 L c else if c.wh = 4 then e4 L c.nm c.fd.nm else if c.wh = 5 then 0 else if c.wh = 6 then e6 B c.nm else if c.wh = 7 then e7 L c.nm c.fd.nm c.tn else if c.wh = 8 then e6 B c.nm else 1
def cK (L : List Kd) (c : Ch) : List Kd :=
  if c.wh = 1 then L ++ [c.kd] else if c.wh = 2 then L.eraseIdx (nmAt L c.nm) else if c.wh = 3 then setFs L c.nm (insA (fdsAt L c.nm) c.fd) else if c.wh = 4 then setFs L c.nm ((fdsAt L c.nm).eraseIdx (lo c.fd.nm (fdsAt L c.nm))) else if c.wh = 7 then setFs L c.nm (rnF (fdsAt L c.nm) c.fd.nm c.tn) else L
def cB (B : List Bd) (c : Ch) : List Bd :=
  if c.wh = 5 then B ++ [c.bd] else if c.wh = 6 then B.eraseIdx (bAt B c.nm) else if c.wh = 8 then setR B c.nm c.bd.mn c.bd.mx else B
def apE (L : List Kd) (B : List Bd) (c : Ch) : Int := if cE L B c = 0 then (sErr (cK L c) (cB B c)).2 else cE L B c
def doE (L : List Kd) (B : List Bd) (c : Ch) : Int := if (sErr L B).2 = 0 then apE L B c else (sErr L B).2

def OSc (w : World) (base p : Nat) (L : List Kd) (B : List Bd) : Prop := ∃ vk vb, base ≤ p ∧ w.heap[p]? = some (.cells #[vk, vb] 46 (0, 0)) ∧ OwnKs w base vk L ∧ Apt L ∧ OwnBs w base vb B
theorem OSc.on {w w' : World} {base p : Nat} {L : List Kd} {B : List Bd} (h : OSc w base p L B) (hB : Below w.heap.size w w') : OSc w' base p L B := by
  obtain ⟨vk, vb, h1, h2, h3, h4, h5⟩ := h
  exact ⟨vk, vb, h1, (hB.block p (Array.getElem?_eq_some_iff.1 h2).1).trans h2, h3.kt (.of_below hB) (.of_below hB) (.of_below hB), h4, own_kt h5 (.of_below hB)⟩
theorem OwnKs.isK {w : World} {base : Nat} {v : Value} {L : List Kd} (h : OwnKs w base v L) : IsK w v L := own_isK h.1
theorem OwnKs.parts {w : World} {base : Nat} {v : Value} {L : List Kd} (h : OwnKs w base v L) : Parts w L := fun k hk => ⟨own_isS (h.2 k hk).1, own_isF (h.2 k hk).2⟩
theorem OwnKs.one {w : World} {base : Nat} {v : Value} {L : List Kd} (h : OwnKs w base v L) : ∀ u ∈ cellsK L, u.oneCell' = true := cellsK_one h.parts.one
theorem OwnBs.isB {w : World} {base : Nat} {v : Value} {B : List Bd} (h : OwnBs w base v B) : IsB w v B := by
  rcases h.2 with ⟨rfl, h0⟩ | ⟨g, cap, cur, rfl, hb, hg, hle, hcm, hcs, ht⟩
  · exact .inl ⟨rfl, List.eq_nil_of_length_eq_zero h0⟩
  · refine .inr ⟨g, 0, cap, rfl, hle, hcm, (Array.getElem?_eq_some_iff.1 hg).1, fun i x hx => ?_⟩
    have c : ∀ j u, j < 5 → x.cells[j]? = some u → w.cell? ⟨g, 0 + i * 5 + j, none⟩ = some u := fun j u hj hu => by
      have := World.ownsRow.cells h (g := g) rfl (i * 5 + j) u ((flatK bd_len B i x j hx hj).trans hu)
      rw [Addr.add_lit] at this
      rw [Nat.add_assoc]
      exact this
    exact ⟨c 0 _ (by omega) rfl, c 1 _ (by omega) rfl, c 2 _ (by omega) rfl, c 3 _ (by omega) rfl, c 4 _ (by omega) rfl⟩

theorem osc_setB {w w' : World} {base p : Nat} {L : List Kd} {B B' : List Bd} {vk vb v' : Value} (hp : base ≤ p) (hX : w.heap[p]? = some (.cells #[vk, vb] 46 (0, 0))) (hK : OwnKs w base vk L) (hA : Apt L) (hT : OwnBs w base vb B) (hbase : base ≤ w.heap.size)
    (hg : w.grownBy w' vb.ownBlock) (ho : OwnBs w' base v' B') :
    (w'.cell? ⟨p, 1, none⟩ = some vb ∧ w'.frozen? ⟨p, 1, none⟩ = false) ∧ OSc (w'.setCell ⟨p, 1, none⟩ v') base p L B' ∧ Below base w (w'.setCell ⟨p, 1, none⟩ v') := by
  have hX1 := (hg.block p (Array.getElem?_eq_some_iff.1 hX).1 (fun e => row_apart hT hX (by decide) e.symm)).trans hX
  have kk : ∀ t : TypeId, t ≠ 34 → t ≠ 46 → Kt t w (w'.setCell ⟨p, 1, none⟩ v') := fun t n1 n2 => (Kt.of_own hT (Ne.symm n1) hg).set hX1 (Ne.symm n2) _ _
  refine ⟨⟨cell_at hX1 rfl, frz_at hX1⟩, ⟨vk, v', hp, (heap_setCell_same w' p 1 _ 46 _ hX1).trans rfl, hK.kt (kk 32 (by decide) (by decide)) (kk 9 (by decide) (by decide)) (kk 28 (by decide) (by decide)), hA, own_set ho (row_apart ho hX1 (by decide)) _ _⟩, ?_⟩
  exact (below_grown (Below.refl _ _) hg hbase (fun g hg' => (World.ownsRow.lt hT g hg').1)).setCell (p := ⟨p, 1, none⟩) hp _
theorem osc_setK {w w' : World} {base p : Nat} {L M : List Kd} {B : List Bd} {vk vb v' : Value} (hp : base ≤ p) (hX : w.heap[p]? = some (.cells #[vk, vb] 46 (0, 0))) (hK : OwnKs w base vk L) (hM : Apt M) (hT : OwnBs w base vb B) (hbase : base ≤ w.heap.size)
    (hg : w.grownBy w' vk.ownBlock) (ho : w'.ownsRow base 32 3 v' M.length (cellsK M)) (hs : ∀ k ∈ M, w.ownsRow base 9 1 k.vo k.of.length (cellsS k.of) ∧ w.ownsRow base 28 4 k.vf k.fs.length (cellsF k.fs)) :
    (w'.cell? ⟨p, 0, none⟩ = some vk ∧ w'.frozen? ⟨p, 0, none⟩ = false) ∧ OSc (w'.setCell ⟨p, 0, none⟩ v') base p M B ∧ Below base w (w'.setCell ⟨p, 0, none⟩ v') := by
  have hX1 := (hg.block p (Array.getElem?_eq_some_iff.1 hX).1 (fun e => row_apart hK.1 hX (by decide) e.symm)).trans hX
  have kk : ∀ t : TypeId, t ≠ 32 → t ≠ 46 → Kt t w (w'.setCell ⟨p, 0, none⟩ v') := fun t n1 n2 => (Kt.of_own hK.1 (Ne.symm n1) hg).set hX1 (Ne.symm n2) _ _
  refine ⟨⟨cell_at hX1 rfl, frz_at hX1⟩, ⟨v', vb, hp, (heap_setCell_same w' p 0 _ 46 _ hX1).trans rfl, ⟨own_set ho (row_apart ho hX1 (by decide)) _ _, fun k hk => ⟨own_kt (hs k hk).1 (kk 9 (by decide) (by decide)), own_kt (hs k hk).2 (kk 28 (by decide) (by decide))⟩⟩, hM, own_kt hT (kk 34 (by decide) (by decide))⟩, ?_⟩
  exact (below_grown (Below.refl _ _) hg hbase (fun g hg' => (hK.1.lt g hg').1)).setCell (p := ⟨p, 0, none⟩) hp _
theorem Apt.at {L : List Kd} (h : Apt L) : ∀ (i j : Nat) (x y : Kd), L[i]? = some x → L[j]? = some y → i ≠ j → ∀ g, x.vf.ownBlock = some g → y.vf.ownBlock ≠ some g := by
  intro i j x y hi hj hne g h1 h2
  obtain ⟨hi', ei⟩ := List.getElem?_eq_some_iff.1 hi
  obtain ⟨hj', ej⟩ := List.getElem?_eq_some_iff.1 hj
  have hp := List.pairwise_iff_getElem.1 h
  rcases Nat.lt_or_gt_of_ne hne with hlt | hlt
  · exact hp i j hi' hj' hlt g (by rw [ei]; exact h1) (by rw [ej]; exact h2)
  · exact hp j i hj' hi' hlt g (by rw [ej]; exact h2) (by rw [ei]; exact h1)
theorem Apt.of_at {L : List Kd} (h : ∀ (i j : Nat) (x y : Kd), L[i]? = some x → L[j]? = some y → i < j → ∀ g, x.vf.ownBlock = some g → y.vf.ownBlock ≠ some g) : Apt L :=
  List.pairwise_iff_getElem.2 fun i j hi hj hlt => h i j _ _ (by simp [hi]) (by simp [hj]) hlt
theorem Apt.erase {L : List Kd} (h : Apt L) (i : Nat) : Apt (L.eraseIdx i) := List.Pairwise.sublist (List.eraseIdx_sublist L i) h
theorem Apt.set {w : World} {L : List Kd} (h : Apt L) {i : Nat} {k k' : Kd} (hk : L[i]? = some k) (hm : Moved w k.vf k'.vf) (hlt : ∀ x ∈ L, ∀ g, x.vf.ownBlock = some g → g < w.heap.size) : Apt (L.set i k') := by
  have key : ∀ (j : Nat) (y : Kd), L[j]? = some y → i ≠ j → ∀ g, k'.vf.ownBlock = some g → y.vf.ownBlock ≠ some g := fun j y hj hne g h1 h2 => by
    rcases hm with e | ⟨g', e, hge⟩
    · exact h.at i j k y hk hj hne g (by rw [← e]; exact h1) h2
    · have := hlt y (List.mem_of_getElem? hj) g h2
      rw [e] at h1
      obtain rfl := Option.some.inj h1
      omega
  refine .of_at fun a b x y ha hb hab g h1 h2 => ?_
  rw [List.getElem?_set] at ha hb
  split at ha
  · rename_i e
    subst e
    split at hb
    · omega
    · split at ha
      · obtain rfl := Option.some.inj ha
        exact key b y hb (by omega) g h1 h2
      · cases ha
  · split at hb
    · rename_i e
      subst e
      split at hb
      · obtain rfl := Option.some.inj hb
        exact key a x ha (by omega) g h2 h1
      · cases hb
    · exact h.at a b x y ha hb (by omega) g h1 h2
theorem osc_setF {w w' : World} {base p gk : Nat} {cp i : Nat} {L : List Kd} {B : List Bd} {vb v' : Value} {k : Kd} {g : List Fd} (hp : base ≤ p) (hX : w.heap[p]? = some (.cells #[.slice (some ⟨gk, 0, none⟩) L.length cp, vb] 46 (0, 0))) (hK : OwnKs w base (.slice (some ⟨gk, 0, none⟩) L.length cp) L) (hA : Apt L) (hT : OwnBs w base vb B) (hbase : base ≤ w.heap.size) (hk : L[i]? = some k)
    (hg : w.grownBy w' k.vf.ownBlock) (ho : w'.ownsRow base 28 4 v' g.length (cellsF g)) (hm : Moved w k.vf v') :
    (w'.cell? ⟨gk, i * 3 + 2, none⟩ = some k.vf ∧ w'.frozen? ⟨gk, i * 3 + 2, none⟩ = false) ∧ OSc (w'.setCell ⟨gk, i * 3 + 2, none⟩ v') base p (L.set i ⟨k.nm, k.of, g, k.vo, v'⟩) B ∧ Below base w (w'.setCell ⟨gk, i * 3 + 2, none⟩ v') := by
  have hF := (hK.2 k (List.mem_of_getElem? hk)).2
  have hil := (List.getElem?_eq_some_iff.1 hk).1
  obtain ⟨cur, hgk⟩ : ∃ cur, w.heap[gk]? = some (.cells cur 32 (0, 0)) := by
    rcases hK.1.2 with ⟨h0, _⟩ | ⟨g', cap', cur, h0, _, hg', _⟩
    · cases h0
    · injection h0 with e1
      injection e1 with e1
      injection e1 with e1
      subst e1
      exact ⟨cur, hg'⟩
  have hgb : base ≤ gk := (hK.1.lt gk rfl).1
  have k1 : ∀ t : TypeId, t ≠ 28 → Kt t w w' := fun t n1 => Kt.of_own hF (Ne.symm n1) hg
  have hX1 : w'.heap[p]? = some (.cells #[.slice (some ⟨gk, 0, none⟩) L.length cp, vb] 46 (0, 0)) := (k1 46 (by decide)).2 p _ hX
  have hG1 : w'.heap[gk]? = some (.cells cur 32 (0, 0)) := (k1 32 (by decide)).2 gk _ hgk
  have hK1 := own_kt hK.1 (k1 32 (by decide))
  have kk : ∀ t : TypeId, t ≠ 28 → t ≠ 32 → Kt t w (w'.setCell ⟨gk, i * 3 + 2, none⟩ v') := fun t n1 n2 => (k1 t n1).set hG1 (Ne.symm n2) _ _
  have hne : gk ≠ p := fun e => by rw [e, hX] at hgk; injection hgk with e3; injection e3 with _ e4; exact absurd e4 (by decide)
  have hcell : w'.cell? ⟨gk, i * 3 + 2, none⟩ = some k.vf := by
    have := World.ownsRow.cells hK1 (g := gk) rfl (i * 3 + 2) k.vf ((flatK kd_len L i k 2 hk (by omega)).trans rfl)
    rw [Addr.add_lit, Nat.zero_add] at this
    exact this
  refine ⟨⟨hcell, frz_at hG1⟩, ⟨_, vb, hp, (heap_setCell_other w' ⟨gk, i * 3 + 2, none⟩ p v' (Ne.symm hne)).trans hX1, ⟨?_, fun x hx => ?_⟩, hA.set (k' := ⟨k.nm, k.of, g, k.vo, v'⟩) hk hm fun x hx g' hg' => ((hK.2 x hx).2.lt g' hg').2, own_kt hT (kk 34 (by decide) (by decide))⟩, ?_⟩
  · have h1 := (World.ownsRow.stored hK1 (i * 3 + 2) v').1
    rw [List.length_set]
    have e : cellsK (L.set i ⟨k.nm, k.of, g, k.vo, v'⟩) = (cellsK L).set (i * 3 + 2) v' := by
      apply List.ext_getElem?
      intro j
      unfold cellsK
      by_cases hj : j < L.length * 3
      · have hq : j / 3 < L.length := by omega
        have hr : j % 3 < 3 := Nat.mod_lt _ (by omega)
        have ej : j = j / 3 * 3 + j % 3 := by omega
        obtain ⟨x, hx⟩ : ∃ x, L[j / 3]? = some x := ⟨L[j / 3], by simp [hq]⟩
        by_cases e : j / 3 = i
        · rw [e] at hx ej
          obtain rfl : k = x := Option.some.inj (hk.symm.trans hx)
          have h2 : (L.set i (⟨k.nm, k.of, g, k.vo, v'⟩ : Kd))[i]? = some ⟨k.nm, k.of, g, k.vo, v'⟩ := by simp [hil]
          rw [ej, flatK kd_len _ i _ (j % 3) h2 hr, List.getElem?_set]
          have h3 := flatK kd_len L i k (j % 3) hx hr
          have hl : (List.flatMap Kd.cells L).length = L.length * 3 := flatK_len kd_len L
          have hc : j % 3 = 0 ∨ j % 3 = 1 ∨ j % 3 = 2 := by omega
          rcases hc with c | c | c
          · rw [if_neg (by omega), h3, c]; rfl
          · rw [if_neg (by omega), h3, c]; rfl
          · rw [if_pos (by omega), if_pos (by rw [hl]; omega), c]; rfl
        · have h2 : (L.set i (⟨k.nm, k.of, g, k.vo, v'⟩ : Kd))[j / 3]? = some x := by rw [List.getElem?_set, if_neg (Ne.symm e)]; exact hx
          rw [List.getElem?_set, if_neg (by omega), ej, flatK kd_len _ (j / 3) x (j % 3) h2 hr, flatK kd_len L (j / 3) x (j % 3) hx hr]
      · rw [List.getElem?_eq_none (by rw [flatK_len kd_len, List.length_set]; omega), List.getElem?_eq_none (by rw [List.length_set, flatK_len kd_len]; omega)]
    rw [e]
    exact h1
  · obtain ⟨j, hj⟩ := List.getElem?_of_mem hx
    rw [List.getElem?_set] at hj
    split at hj
    · (try split at hj)
      · obtain rfl := Option.some.inj hj
        exact ⟨own_kt (hK.2 k (List.mem_of_getElem? hk)).1 (kk 9 (by decide) (by decide)), own_set ho (row_apart ho hG1 (by decide)) _ _⟩
    · rename_i e
      have hx' := List.mem_of_getElem? hj
      refine ⟨own_kt (hK.2 x hx').1 (kk 9 (by decide) (by decide)), own_set (World.ownsRow.kept (hK.2 x hx').2 hg ?_) (row_apart (World.ownsRow.kept (hK.2 x hx').2 hg ?_) hG1 (by decide)) _ _⟩
      all_goals
        rcases hb : x.vf.ownBlock with _ | q
        · exact .inl rfl
        · exact .inr (fun e2 => hA.at j i x k hj hk (Ne.symm e) q hb e2.symm)
  · exact (below_grown (Below.refl _ _) hg hbase (fun g hg' => (hF.lt g hg').1)).setCell (p := ⟨gk, i * 3 + 2, none⟩) hgb _
end Go.Proofs.YtpmblbhemcippaaGreatDoor

/-
  What becomes of a record with a change, in plain functions; the function that turnOf makes.
-/
namespace Go.Proofs.YtpmblbhemcippaaGreatDoor
open Go.RowKit
set_option linter.unusedVariables false
set_option linter.unusedSimpArgs false

def Ch.pr (c : Ch) : Pr := ⟨bs c.fd.nm, c.vt, c.vn, bs c.vs⟩
def tnE (c : Ch) (L : List Pr) : Int := if c.wh = 3 then gvE c.pr L else 0
def tnR (c : Ch) (L : List Pr) : List Pr := if c.wh = 3 then gvR c.pr L else if c.wh = 4 then L.filter (keepP (bs c.fd.nm)) else if c.wh = 7 then rnR L (bs c.fd.nm) (bs c.tn) else L
def Turns (w : World) (c : Ch) (fn : Value) : Prop :=
  (c.wh = 3 ∧ ∃ p q, fn = .func (.func 52) #[] #[.pointer (some ⟨p, 0, none⟩), .pointer (some ⟨q, 0, none⟩)] ∧ w.heap[p]? = some (.cells #[.string (bs c.fd.nm)] 9 (0, 0)) ∧ w.heap[q]? = some (.cells #[.int .i64 c.vt, .int .i64 c.vn, .string (bs c.vs)] 36 (0, 0))) ∨
  (c.wh = 4 ∧ ∃ p, fn = .func (.func 54) #[] #[.pointer (some ⟨p, 0, none⟩)] ∧ w.heap[p]? = some (.cells #[.string (bs c.fd.nm)] 9 (0, 0))) ∨
  (c.wh = 7 ∧ ∃ p q, fn = .func (.func 56) #[] #[.pointer (some ⟨p, 0, none⟩), .pointer (some ⟨q, 0, none⟩)] ∧ w.heap[p]? = some (.cells #[.string (bs c.fd.nm)] 9 (0, 0)) ∧ w.heap[q]? = some (.cells #[.string (bs c.tn)] 9 (0, 0))) ∨
  (¬ c.wh = 3 ∧ ¬ c.wh = 4 ∧ ¬ c.wh = 7 ∧ fn = .nilFunc)
theorem Turns.on {w w' : World} {c : Ch} {fn : Value} (h : Turns w c fn) (hB : Below w.heap.size w w') : Turns w' c fn := by
  have k : ∀ {b : Nat} {o : Obj}, w.heap[b]? = some o → w'.heap[b]? = some o := fun {b o} hb => (hB.block b (Array.getElem?_eq_some_iff.1 hb).1).trans hb
  rcases h with ⟨h, p, q, e, h1, h2⟩ | ⟨h, p, e, h1⟩ | ⟨h, p, q, e, h1, h2⟩ | h
  · exact .inl ⟨h, p, q, e, k h1, k h2⟩
  · exact .inr (.inl ⟨h, p, e, k h1⟩)
  · exact .inr (.inr (.inl ⟨h, p, q, e, k h1, k h2⟩))
  · exact .inr (.inr (.inr h))
theorem Turns.one {w : World} {c : Ch} {fn : Value} (h : Turns w c fn) : fn.oneCell' = true := by
  rcases h with ⟨_, p, q, e, _⟩ | ⟨_, p, e, _⟩ | ⟨_, p, q, e, _⟩ | ⟨_, _, _, e⟩ <;> (rw [e]; rfl)
def goes (K : List Nm) (n : Nd) : Bool := hasN K n.kd.toList
def ndX (c : Ch) (K : List Nm) (n : Nd) : Int := if goes K n = true then tnE c n.rc else 0
def ndY (c : Ch) (K : List Nm) (n : Nd) : List Pr := if goes K n = true then tnR c n.rc else n.rc
end Go.Proofs.YtpmblbhemcippaaGreatDoor
