/-
  The walks of slices.Index and slices.Contains of properties, and of the other closures of propOps.
-/
import Derived.Test.YtidmfdbckpficaaM27
import Derived.Deep.QuietTactic
import Derived.Deep.RegionHeldLaw
namespace Go.Proofs.Ytidmfdbckpficaa
open Go.RowKit
set_option linter.unusedVariables false
set_option linter.unusedSimpArgs false

set_option maxHeartbeats 2000000 in
set_option maxRecDepth 100000 in
theorem indexP_any {v : Value} {N : List Pr} {w : World} (hn : IsR w v N) (hl : N.length ≤ 1000) (p : Pr) :
    Calls Try.prog 96 #[v, p.one] w fun e w' => e = .returned (.int .i64 (idxF (fun q => p.eq q) N 0)) ∧ Below w.heap.size w w' := by
  have HH : Hid (IsR w v N) := hn
  obtain ⟨an, cn, hv, _⟩ := hn
  subst hv
  generalize hf : (fun q : Pr => p.eq q) = f
  have E1 : Hid (∀ (q : Pr) (W : World), (binOp .eql 38 p.one q.one).run Try.prog W = .ok (.bool (f q)) W) := fun q W => by
    rw [← hf]
    exact eqlP_any p q W
  have E2 : Hid (∀ (q : Pr) (x y : Operand) (W : World), (eqGuard .eql 38 x y p.one q.one).run Try.prog W = .ok () W) := fun q x y W => egP .eql x y p q W
  clear hf
  obtain ⟨pnm, ppt, ppn, pps⟩ := p
  go_enter Try.func96, Try.ntmps96
  go_wp2
  go_loopw [8] (fun i wr => ∃ k : Nat, k ≤ N.length ∧ i = .int .i64 k ∧ idxF f N 0 = idxF f (N.drop k) k ∧ wr.heap[w.heap.size]? = some (.cells #[.string pnm, .int .i64 ppt, .int .i64 ppn, .string pps] 38 (0, 0)) ∧ Below w.heap.size w wr) (fun i _ => N.length - (intOf i).toNat)
  case atStart => exact ⟨0, Nat.zero_le _, rfl, rfl, heap_alloc_new w _, b_alloc (Below.refl _ _) _⟩
  case round =>
    obtain ⟨k, hk, rfl, hx, hbx, hB⟩ := hrel
    have HX : Hid (idxF f N 0 = idxF f (N.drop k) k) := hx
    have HBX := Lib.hid hbx
    have x0 := cell_at (i := 0) hbx rfl
    have x1 := cell_at (i := 1) hbx rfl
    have x2 := cell_at (i := 2) hbx rfl
    have x3 := cell_at (i := 3) hbx rfl
    clear hx hbx
    by_cases hlt : k < N.length
    · obtain ⟨n, hn'⟩ : ∃ n, N[k]? = some n := ⟨N[k], by simp [hlt]⟩
      have HD : Hid (N.drop k = n :: N.drop (k + 1)) := dropN hn'
      obtain ⟨b, off, c, hv, hb, e0, e1, e2, e3⟩ := IsR.at HH.out hn'
      injection hv with hv1 hv2 hv3
      subst hv1
      clear hv2 hv3
      have d0 := (hB.cell (p := ⟨b, off + k * 4, none⟩) hb).trans e0
      have d1 := (hB.cell (p := ⟨b, off + k * 4 + 1, none⟩) hb).trans e1
      have d2 := (hB.cell (p := ⟨b, off + k * 4 + 2, none⟩) hb).trans e2
      have d3 := (hB.cell (p := ⟨b, off + k * 4 + 3, none⟩) hb).trans e3
      have r1 := E1.out n
      have r2 := E2.out n
      have HB := Lib.hid hB
      clear e0 e1 e2 e3 hn'
      cases he : f n with
      | true =>
        have H : Hid (idxF f N 0 = (k : Int)) := by
          show _ = _
          rw [HX.out, HD.out]; unfold idxF; rw [if_pos he]
        rw [he] at r1
        clear HX HD he
        obtain ⟨nm, pt, pn, ps⟩ := n
        simp only at d0 d1 d2 d3 r1 r2
        go_wp2_with fail
        go_quiet (fail)
        go_wp2
        go_ret
        exact ⟨ret_v (congrArg (Value.int .i64) H.out.symm), b_drewK HB.out _⟩
      | false =>
        have H : Hid (idxF f N 0 = idxF f (N.drop (k + 1)) (k + 1)) := by
          show _ = _
          rw [HX.out, HD.out]; conv => lhs; unfold idxF; rw [if_neg (by rw [he]; decide)]
        rw [he] at r1
        clear HX HD he
        obtain ⟨nm, pt, pn, ps⟩ := n
        simp only at d0 d1 d2 d3 r1 r2
        go_wp2_with fail
        go_quiet (fail)
        go_wp2
        refine ⟨⟨k + 1, hlt, ?_, H.out, HBX.out, b_drewK HB.out _⟩, ?_⟩
        · go_num
        · simp [intOf]
          omega
    · have hd : N.drop k = [] := List.drop_eq_nil_of_le (by omega)
      have H : Hid (idxF f N 0 = -1) := by
        show _ = _
        rw [HX.out, hd]; rfl
      clear HX hd
      go_wp2
      go_ret
      exact ⟨ret_v (congrArg (Value.int .i64) H.out.symm), hB⟩

set_option maxHeartbeats 2000000 in
theorem contP_any {v : Value} {N : List Pr} {w : World} (hn : IsR w v N) (hl : N.length ≤ 1000) (p : Pr) :
    Calls Try.prog 76 #[v, p.one] w fun e w' => e = .returned (.bool (sameP N p)) ∧ Below w.heap.size w w' := by
  have hB : Below w.heap.size w (w.alloc (.cells #[.string p.nm, .int .i64 p.t, .int .i64 p.n, .string p.s] 38)) := b_alloc (Below.refl _ _) _
  have c := indexP_any (hn.on hB) hl p
  have e : sameP N p = decide (0 ≤ idxF (fun q => p.eq q) N 0) := (idxF_any _ N 0).symm
  rw [e]
  obtain ⟨an, cn, hv, _⟩ := hn
  subst hv
  have HB := Lib.hid hB
  clear e hB
  generalize idxF (fun q => p.eq q) N 0 = j at *
  obtain ⟨nm, pt, pn, ps⟩ := p
  simp only at *
  go_enter Try.func76, Try.ntmps76
  go_wp2_with (first | (go_at_call 96; refine c.mono ?_; rintro e W2 ⟨rfl, hB2⟩))
  go_ret
  exact ⟨rfl, on1K HB.out hB2 (Nat.le_refl _)⟩

set_option maxHeartbeats 2000000 in
/-- same: a property is in the record behind the pointer. -/
theorem same_any {N : List Pr} {y : Nat} {w : World} (hy : RcAt w y N) (hl : N.length ≤ 1000) (p : Pr) :
    Calls Try.prog 75 #[p.one, .pointer (some ⟨y, 0, none⟩)] w fun e w' => e = .returned (.bool (sameP N p)) ∧ Below w.heap.size w w' := by
  have hB : Below w.heap.size w (w.alloc (.cells #[.string p.nm, .int .i64 p.t, .int .i64 p.n, .string p.s] 38)) := b_alloc (Below.refl _ _) _
  obtain ⟨a, c, h1, h2⟩ := hy.on hB
  have cc := contP_any h2 hl p
  have y0 : (w.alloc (.cells #[.string p.nm, .int .i64 p.t, .int .i64 p.n, .string p.s] 38)).cell? ⟨y, 0, none⟩ = some (.slice a N.length c) := cell_at h1 rfl
  have HB := Lib.hid hB
  clear h1 h2 hB hy
  generalize sameP N p = g at *
  obtain ⟨nm, pt, pn, ps⟩ := p
  simp only at *
  go_enter Try.func75, Try.ntmps75
  go_wp2_with (first | (go_at_call 76; refine cc.mono ?_; rintro e W2 ⟨rfl, hB2⟩))
  go_ret
  exact ⟨rfl, on1K HB.out hB2 (Nat.le_refl _)⟩
def unsetO (id : Int) (p : Pr) : Opx := ⟨4, ⟨id, ⟨#[]⟩, .slice none 0 0, []⟩, ⟨p.nm, 0, 0, ⟨#[]⟩⟩, te0⟩
def setO (id : Int) (p : Pr) : Opx := ⟨3, ⟨id, ⟨#[]⟩, .slice none 0 0, []⟩, p, te0⟩

set_option maxHeartbeats 2000000 in
theorem mkUnset (id : Int) (p : Pr) (x : Nat) (w : World) (hx : w.heap[x]? = some (.cells #[.int .i64 id] 3 (0, 0))) : Calls Try.prog 78 #[p.one, .pointer (some ⟨x, 0, none⟩)] w (MkPost w (unsetO id p)) := by
  obtain ⟨nm, pt, pn, ps⟩ := p
  have hl := (Array.getElem?_eq_some_iff.1 hx).1
  have hB := fun o1 o2 : Obj => b_alloc (b_alloc (Below.refl w.heap.size w) o1) o2
  have x0 : ∀ o1 o2 : Obj, ((w.alloc o1).alloc o2).cell? ⟨x, 0, none⟩ = some (.int .i64 id) := fun o1 o2 => cell_at (((hB o1 o2).block x hl).trans hx) rfl
  clear hx
  go_enter Try.func78, Try.ntmps78
  go_wp2
  refine bodyPost_ret (v := (unsetO id ⟨nm, pt, pn, ps⟩).one) ?_ rfl ⟨unsetO id ⟨nm, pt, pn, ps⟩, rfl, rfl, World.ownsRow_nil _ _ _ _, b_alloc (b_alloc (Below.refl _ _) _) _⟩
  simp [results, Try.results78, go_sem, unsetO, nd0, pr0, te0, Opx.one]
set_option maxHeartbeats 2000000 in
theorem mkSet (id : Int) (p : Pr) (x : Nat) (w : World) (hx : w.heap[x]? = some (.cells #[.int .i64 id] 3 (0, 0))) : Calls Try.prog 79 #[p.one, .pointer (some ⟨x, 0, none⟩)] w (MkPost w (setO id p)) := by
  obtain ⟨nm, pt, pn, ps⟩ := p
  have hl := (Array.getElem?_eq_some_iff.1 hx).1
  have hB := fun o1 o2 : Obj => b_alloc (b_alloc (Below.refl w.heap.size w) o1) o2
  have x0 : ∀ o1 o2 : Obj, ((w.alloc o1).alloc o2).cell? ⟨x, 0, none⟩ = some (.int .i64 id) := fun o1 o2 => cell_at (((hB o1 o2).block x hl).trans hx) rfl
  clear hx
  go_enter Try.func79, Try.ntmps79
  go_wp2
  refine bodyPost_ret (v := (setO id ⟨nm, pt, pn, ps⟩).one) ?_ rfl ⟨setO id ⟨nm, pt, pn, ps⟩, rfl, rfl, World.ownsRow_nil _ _ _ _, b_alloc (b_alloc (Below.refl _ _) _) _⟩
  simp [results, Try.results79, go_sem, setO, nd0, pr0, te0, Opx.one]
end Go.Proofs.Ytidmfdbckpficaa

/-
  Ops behind ops; the walk of propOps.
-/
namespace Go.Proofs.Ytidmfdbckpficaa
open Go.RowKit
set_option linter.unusedVariables false
set_option linter.unusedSimpArgs false

theorem cellsO_app (L M : List Opx) : cellsO (L ++ M) = cellsO L ++ cellsO M := by simp [cellsO]
theorem cellsO_len (L : List Opx) : (cellsO L).length = L.length * 11 := flatK_len op_len L
theorem cellsO_one {w : World} {base : Nat} {L : List Opx} (h : ∀ o ∈ L, OwnRc w base o.nd.rv o.nd.rc) : ∀ u ∈ cellsO L, u.oneCell' = true := by
  intro u hu
  obtain ⟨o, ho, hf⟩ := List.mem_flatMap.1 hu
  exact op_one (h o ho).sl u hf
theorem run_appO {w : World} {base base2 : Nat} {u1 u2 : Value} {l1 l2 : List Opx} (h1 : OwnOs w base u1 l1) (h2 : OwnOs w base2 u2 l2) (hl : l1.length + l2.length ≤ 100000) (hb : base ≤ w.heap.size) (hbb : base ≤ base2) (ty : TypeId) :
    ∃ v' w', (Builtin.append_ #[26, 26] ty #[u1, u2]).run Try.prog w = .ok v' w' ∧ OwnOs w' base v' (l1 ++ l2) ∧ w.grownBy w' u1.ownBlock := by
  obtain ⟨i0, hi0, hz0, hz1, hz2⟩ := info_parts infoO
  rcases h2.1.2 with ⟨rfl, hn⟩ | ⟨g, cap, cur, rfl, hbb', hg, rest⟩
  · have e : l2 = [] := List.eq_nil_of_length_eq_zero hn
    subst e
    refine ⟨u1, w, run_append_owned_none w base 26 ty 42 i0 11 Try.underlying26 hi0 u1 _ _ h1.1, by rw [List.append_nil]; exact h1, ⟨rfl, rfl, rfl, Nat.le_refl _, fun _ _ _ => rfl⟩⟩
  · obtain ⟨v', w', r1, r2, r3, _⟩ := run_append_own (P := Try.prog) w base 26 ty 42 i0 _ 11 136 Try.underlying26 hi0 hz0 hz1 hz2 rfl (by decide) u1 l1.length (cellsO l1) h1.1 ⟨g, 0, none⟩ l2.length cap (cellsO l2) (cellsO_len l2) (World.ownsRow.cells h2.1 rfl) (cellsO_one h2.2) (by unfold maxLen; omega) (by omega) hb
    have k5 : Kt 38 w w' := Kt.of_own h1.1 (by decide) r3
    refine ⟨v', w', r1, ⟨by rw [cellsO_app, List.length_append]; exact r2, fun o ho => ?_⟩, r3⟩
    rcases List.mem_append.1 ho with ho | ho
    · exact (h1.2 o ho).kt k5
    · exact OwnRc.kt (own_base (h2.2 o ho) hbb) k5
theorem wp_appO {w : World} {o : Oper} {a : Act} {K : Act → World → Prop} {Q : Exit → Act → World → Prop} (s x : Operand) (ho : o.op = .call { callee := .builtin .append, args := #[s, x], argTypes := #[26, 26] })
    {base base2 : Nat} {u1 u2 : Value} {l1 l2 : List Opx} (hs : a.eval s = u1) (hx : a.eval x = u2) (h1 : OwnOs w base u1 l1) (h2 : OwnOs w base2 u2 l2) (hl : l1.length + l2.length ≤ 100000) (hb : base ≤ w.heap.size) (hbb : base ≤ base2)
    (hK : ∀ v' w', OwnOs w' base v' (l1 ++ l2) → w.grownBy w' u1.ownBlock → K (a.put o.dst v') w') : o.wp Try.prog a w K Q := by
  obtain ⟨v', w', hr, r2, r3⟩ := run_appO h1 h2 hl hb hbb o.type
  unfold Oper.wp execOp
  simp only [ho, resolve, invoke, builtin, Sem.run_bind, Sem.run_pure, Result.andThen_ok, List.map_toArray, List.map_cons, List.map_nil, hs, hx, hr]
  exact hK v' w' r2 r3
theorem wpList_appO {w : World} {ops : Array Oper} {rest : List Oper} {o : Oper} {a : Act} {Q : Exit → Act → World → Prop} (hg : o.guard = none) (s x : Operand) (ho : o.op = .call { callee := .builtin .append, args := #[s, x], argTypes := #[26, 26] })
    {base base2 : Nat} {u1 u2 : Value} {l1 l2 : List Opx} (hs : a.eval s = u1) (hx : a.eval x = u2) (h1 : OwnOs w base u1 l1) (h2 : OwnOs w base2 u2 l2) (hl : l1.length + l2.length ≤ 100000) (hb : base ≤ w.heap.size) (hbb : base ≤ base2)
    (hK : ∀ v' w', OwnOs w' base v' (l1 ++ l2) → w.grownBy w' u1.ownBlock → wpList Try.prog ops Q rest (a.put o.dst v') w') : wpList Try.prog ops Q (o :: rest) a w := by
  refine wpList_plain hg fun K hK' => ?_
  exact wp_appO s x ho hs hx h1 h2 hl hb hbb (fun v' w' r1 r2 => hK' _ _ (hK v' w' r1 r2))
theorem step_appO {w : World} {ops : Array Oper} {o : Oper} {a : Act} {K : Act → World → Prop} {Q : Exit → Act → World → Prop} {E : Prop} (hg : o.guard = none) (s x : Operand) (ho : o.op = .call { callee := .builtin .append, args := #[s, x], argTypes := #[26, 26] })
    {base base2 : Nat} {u1 u2 : Value} {l1 l2 : List Opx} (hs : a.eval s = u1) (hx : a.eval x = u2) (h1 : OwnOs w base u1 l1) (h2 : OwnOs w base2 u2 l2) (hl : l1.length + l2.length ≤ 100000) (hb : base ≤ w.heap.size) (hbb : base ≤ base2)
    (hK : ∀ v' w', OwnOs w' base v' (l1 ++ l2) → w.grownBy w' u1.ownBlock → K (a.put o.dst v') w') :
    if Region.wanted o (yielded ops a.tmps) = true then Oper.wp Try.prog o a w K Q else E := by
  have hw : Region.wanted o (yielded ops a.tmps) = true := by simp [Region.wanted, hg]
  rw [if_pos hw]
  exact wp_appO s x ho hs hx h1 h2 hl hb hbb hK

/-- The ops that make of a record another one. -/
def unsL (id : Int) (A B : List Pr) : List Opx := (A.filter fun p => !namedP B p).map fun p => (unsetO id p).c
def setL (id : Int) (A B : List Pr) : List Opx := (B.filter fun p => !sameP A p).map fun p => (setO id p).c
def prO (id : Int) (A B : List Pr) : List Opx := unsL id A B ++ setL id A B
theorem map_len {L : List Opx} {M : List Opx} (h : L.map Opx.c = M) : L.length = M.length := by rw [← h, List.length_map]
theorem unsL_len (id : Int) (A B : List Pr) : (unsL id A B).length ≤ A.length := by unfold unsL; rw [List.length_map]; exact List.length_filter_le _ _
theorem setL_len (id : Int) (A B : List Pr) : (setL id A B).length ≤ B.length := by unfold setL; rw [List.length_map]; exact List.length_filter_le _ _
theorem ret_eqO {Post : Ending → World → Prop} {v v' : Value} {w : World} (h : v' = v) (hp : Post (.returned v) w) : Post (.returned v') w := by rw [h]; exact hp
/-- The boxes of propOps. -/
abbrev poW (w : World) (id : Int) (va vb : Value) : World := ((w.alloc (.cells #[.int .i64 id] 3)).alloc (.cells #[va] 28)).alloc (.cells #[vb] 28)

set_option maxHeartbeats 8000000 in
set_option maxRecDepth 100000 in
theorem propOps_any {id : Int} {va vb : Value} {A B : List Pr} {w : World} (hA : IsR w va A) (hB : IsR w vb B) (la : A.length ≤ 1000) (lb : B.length ≤ 1000) :
    Calls Try.prog 54 #[.int .i64 id, va, vb] w (OuPost w (prO id A B)) := by
  have b0 : Below w.heap.size w (poW w id va vb) := b_alloc (b_alloc (b_alloc (Below.refl _ _) _) _) _
  have n0 : (poW w id va vb).heap[w.heap.size]? = some (.cells #[.int .i64 id] 3 (0, 0)) := (heap_alloc_old _ _ (by simp; omega)).trans ((heap_alloc_old _ _ (by simp)).trans (heap_alloc_new w _))
  have n1 : (poW w id va vb).heap[w.heap.size + 1]? = some (.cells #[va] 28 (0, 0)) := by
    have := heap_alloc_new (w.alloc (.cells #[.int .i64 id] 3)) (.cells #[va] 28)
    rw [World.size_alloc] at this
    exact (heap_alloc_old _ _ (by simp)).trans this
  have n2 : (poW w id va vb).heap[w.heap.size + 1 + 1]? = some (.cells #[vb] 28 (0, 0)) := by
    have := heap_alloc_new ((w.alloc (.cells #[.int .i64 id] 3)).alloc (.cells #[va] 28)) (.cells #[vb] 28)
    simp only [World.size_alloc] at this
    exact this
  have HA : Hid (∀ W, Below (poW w id va vb).heap.size (poW w id va vb) W → Calls Try.prog 77 #[va, .func (.func 72) #[] #[.pointer (some ⟨w.heap.size + 1 + 1, 0, none⟩)], .func (.func 78) #[] #[.pointer (some ⟨w.heap.size, 0, none⟩)]] W (OuPost W (unsL id A B))) := fun W hW => by
    refine unless119 (namedP B) (unsetO id) ((hA.on b0).on hW) la (fun W' hW' x hx => ?_) (fun W' hW' x hx => ?_)
    · have hb := on1K hW hW' (Nat.le_refl _)
      have hB' := hB
      obtain ⟨ab, cb, e, _⟩ := hB'
      subst e
      exact named_any ⟨ab, cb, (hb.block _ (Array.getElem?_eq_some_iff.1 n2).1).trans n2, ((hB.on b0).on hb)⟩ lb x
    · have hb := on1K hW hW' (Nat.le_refl _)
      exact mkUnset id x _ W' ((hb.block _ (Array.getElem?_eq_some_iff.1 n0).1).trans n0)
  have HBc : Hid (∀ W, Below (poW w id va vb).heap.size (poW w id va vb) W → Calls Try.prog 77 #[vb, .func (.func 75) #[] #[.pointer (some ⟨w.heap.size + 1, 0, none⟩)], .func (.func 79) #[] #[.pointer (some ⟨w.heap.size, 0, none⟩)]] W (OuPost W (setL id A B))) := fun W hW => by
    refine unless120 (sameP A) (setO id) ((hB.on b0).on hW) lb (fun W' hW' x hx => ?_) (fun W' hW' x hx => ?_)
    · have hb := on1K hW hW' (Nat.le_refl _)
      have hA' := hA
      obtain ⟨aa, ca, e, _⟩ := hA'
      subst e
      exact same_any ⟨aa, ca, (hb.block _ (Array.getElem?_eq_some_iff.1 n1).1).trans n1, ((hA.on b0).on hb)⟩ la x
    · have hb := on1K hW hW' (Nat.le_refl _)
      exact mkSet id x _ W' ((hb.block _ (Array.getElem?_eq_some_iff.1 n0).1).trans n0)
  have HW : Hid (Below w.heap.size w (poW w id va vb)) := b0
  have HX : Hid (∀ W, Below (poW w id va vb).heap.size (poW w id va vb) W → W.cell? ⟨w.heap.size + 1, 0, none⟩ = some va ∧ W.cell? ⟨w.heap.size + 1 + 1, 0, none⟩ = some vb) := fun W hb => ⟨cell_at ((hb.block _ (Array.getElem?_eq_some_iff.1 n1).1).trans n1) rfl, cell_at ((hb.block _ (Array.getElem?_eq_some_iff.1 n2).1).trans n2) rfl⟩
  have hBd : Below (poW w id va vb).heap.size (poW w id va vb) (poW w id va vb).drew := (Below.refl _ _).drew
  have HBd := Lib.hid hBd
  have HCA := Lib.hid (HA.out _ hBd)
  obtain ⟨y0, y1⟩ := HX.out _ (Below.refl _ _)
  obtain ⟨aa, ca, ea, _⟩ := hA
  obtain ⟨ab, cb, eb, _⟩ := hB
  subst ea eb
  have HLn : Hid (∀ l1 l2 : List Opx, l1.map Opx.c = unsL id A B → l2.map Opx.c = setL id A B → l1.length + l2.length ≤ 100000) := fun l1 l2 h1 h2 => by
    have := map_len h1
    have := map_len h2
    have := unsL_len id A B
    have := setL_len id A B
    omega
  have HG : Hid (∀ (W2 W3 w1 : World) (u : Value) (l : List Opx), Below (poW w id (.slice aa A.length ca) (.slice ab B.length cb)).heap.size (poW w id (.slice aa A.length ca) (.slice ab B.length cb)) W3 → OwnOs W2 (poW w id (.slice aa A.length ca) (.slice ab B.length cb)).drew.heap.size u l → W3.grownBy w1 u.ownBlock → Below (poW w id (.slice aa A.length ca) (.slice ab B.length cb)).heap.size (poW w id (.slice aa A.length ca) (.slice ab B.length cb)) w1) := fun W2 W3 w1 u l hb hO hg => below_grown hb hg hb.size (fun k hk => (World.ownsRow.lt hO.1 k hk).1)
  clear b0 n0 n1 n2 hBd HA
  go_enter Try.func54, Try.ntmps54
  go_wp2
  go_region_held_law (fun w' => w'.cell? ⟨w.heap.size + 1, 0, none⟩ = some (.slice aa A.length ca) ∧ w'.cell? ⟨w.heap.size + 1 + 1, 0, none⟩ = some (.slice ab B.length cb)) (go_keep) (first | (refine step_appO rfl (.tmp 14) (.tmp 18) rfl (by simp [Act.eval, Act.put]) (by simp [Act.eval, Act.put]) (hO1.on hB3) hO3 (HLn.out L1 L3 hm1 hm3) (Nat.le_trans hB2.size hB3.size) hB2.size ?_; intro v1 w1 hX hgr; have hb1 := HG.out W2 W3 w1 _ L1 (on1K (on1K HBd.out hB2 (Nat.le_refl _)) hB3 (Nat.le_refl _)) hO1 hgr; obtain ⟨s0, s1⟩ := HX.out w1 hb1; obtain ⟨av, cv, ev⟩ := own_slice hX.1; subst ev; have HEnd := Lib.hid (And.intro hX hb1)) | (go_simp; go_at_call 77; first | (refine (HBc.out W2 (on1K HBd.out hB2 (Nat.le_refl _))).mono ?_; rintro e W3 ⟨a3, c3, L3, rfl, hO3, hm3, hB3⟩; obtain ⟨q0, q1⟩ := HX.out W3 (on1K (on1K HBd.out hB2 (Nat.le_refl _)) hB3 (Nat.le_refl _))) | (refine HCA.out.mono ?_; rintro e W2 ⟨a1, c1, L1, rfl, hO1, hm1, hB2⟩; obtain ⟨p0, p1⟩ := HX.out W2 (on1K HBd.out hB2 (Nat.le_refl _)))))
  all_goals
    have HF : Hid (OuPost w (prO id A B) (.returned (.slice av (L1 ++ L3).length cv)) w1) := ⟨av, cv, L1 ++ L3, rfl, HEnd.out.1.base HW.out.size, by rw [List.map_append, hm1, hm3]; rfl, HW.out.trans (HEnd.out.2.mono HW.out.size)⟩
    clear hO1 hO3 hm1 hm3 hX hgr HEnd
    go_wp2
    go_ret
    exact ret_eqO (by simp) HF.out
end Go.Proofs.Ytidmfdbckpficaa
