import Derived.Test.YtahamkajkkkjdaaGreatDoorM39
import Derived.Test.YtahamkajkkkjdaaGreatDoorM29
import Derived.Test.YtahamkajkkkjdaaGreatDoorM23
import Derived.Test.YtahamkajkkkjdaaGreatDoorM37
import Derived.Deep.RegionHeld3
import Derived.Test.YtahamkajkkkjdaaGreatDoorM28
import Derived.Test.YtahamkajkkkjdaaGreatDoorM26
namespace Go.Proofs.YtahamkajkkkjdaaGreatDoor
open Go.RowKit
set_option linter.unusedVariables false
set_option linter.unusedSimpArgs false
def PartR (h : List UInt8) : Prop := ∃ b i, 1 ≤ b.length ∧ b.length ≤ 9223372036854775807 ∧ i < (recL b).length ∧ h = (recL b).take i
theorem PartR.whole {h : List UInt8} (p : PartR h) : whole h = none := by
  obtain ⟨b, i, h1, h2, h3, rfl⟩ := p
  exact whole_no b i h1 h2 h3
theorem PartR.take {h : List UInt8} (p : PartR h) (m : Nat) : PartR (h.take m) := by
  obtain ⟨b, i, h1, h2, h3, rfl⟩ := p
  exact ⟨b, min m i, h1, h2, by omega, List.take_take ..⟩
theorem encE0_lt {O : List Opx} (h : (recL (encE0 O)).length ≤ 1000000000) : (encE0 O).length ≤ 9223372036854775807 := by
  unfold recL encT at h
  rw [List.length_append] at h
  omega
theorem partR_op {O : List Opx} (h : (recL (encE0 O)).length ≤ 1000000000) {i : Nat} (hi : i < (recL (encE0 O)).length) : PartR ((recL (encE0 O)).take i) := ⟨_, i, encE0_pos O, encE0_lt h, hi, rfl⟩
theorem partR_nil : PartR [] := ⟨encE0 [], 0, encE0_pos _, by decide +kernel, by have := recL_two []; omega, rfl⟩
theorem rcs_cons (O : List Opx) (r : List (List Opx)) : rcs (O :: r) = recL (encE0 O) ++ rcs r := by unfold rcs; simp
theorem take_rcs : ∀ (Os : List (List Opx)) {h : List UInt8} (m : Nat), PartR h → (∀ O ∈ Os, (recL (encE0 O)).length ≤ 1000000000) → ∃ A R tl, Os = A ++ R ∧ (rcs Os ++ h).take m = rcs A ++ tl ∧ PartR tl
  | [], h, m, hp, _ => ⟨[], [], h.take m, rfl, rfl, hp.take m⟩
  | O :: r, h, m, hp, hl => by
    have hlO := hl O List.mem_cons_self
    by_cases hm : m < (recL (encE0 O)).length
    · refine ⟨[], O :: r, (recL (encE0 O)).take m, rfl, ?_, partR_op hlO hm⟩
      rw [rcs_cons, List.append_assoc, List.take_append_of_le_length (by omega)]
      rfl
    · obtain ⟨A, R, tl, e1, e2, e3⟩ := take_rcs r (m - (recL (encE0 O)).length) hp (fun P hP => hl P (List.mem_cons_of_mem _ hP))
      refine ⟨O :: A, R, tl, by rw [e1]; rfl, ?_, e3⟩
      rw [rcs_cons, List.append_assoc, List.take_append, List.take_of_length_le (by omega), e2, rcs_cons, List.append_assoc]
def Pr.is (p : Pr) (s : ByteArray) : Bool := p.nm.toList == s.toList
def keepP (id : ByteArray) (t : Pr) : Bool := !t.is id
section
variable {α : Type}
end
def rnR (L : List Pr) (o t : ByteArray) : List Pr :=
  if idxP o.toList L 0 = -1 then L else if idxP t.toList L 0 = -1 then (match L[(idxP o.toList L 0).toNat]? with
    | some p => ins ⟨t, p.t, p.n, p.s⟩ (L.eraseIdx (idxP o.toList L 0).toNat)
    | none => L) else L
def gvE (p : Pr) (L : List Pr) : Int := if p.t = 0 then 0 else if idxP p.nm.toList L 0 = -1 then rsErr p L else 0
def gvR (p : Pr) (L : List Pr) : List Pr := if p.t = 0 then L else if idxP p.nm.toList L 0 = -1 then ins p L else L
def Ch.pr (c : Ch) : Pr := ⟨bs c.fd.nm, c.vt, c.vn, bs c.vs⟩
def tnE (c : Ch) (L : List Pr) : Int := if c.wh = 3 then gvE c.pr L else 0
def tnR (c : Ch) (L : List Pr) : List Pr := if c.wh = 3 then gvR c.pr L else if c.wh = 4 then L.filter (keepP (bs c.fd.nm)) else if c.wh = 7 then rnR L (bs c.fd.nm) (bs c.tn) else L
def Turns (w : World) (c : Ch) (fn : Value) : Prop :=
  (c.wh = 3 ∧ ∃ p q, fn = .func (.func 164) #[] #[.pointer (some ⟨p, 0, none⟩), .pointer (some ⟨q, 0, none⟩)] ∧ w.heap[p]? = some (.cells #[.string (bs c.fd.nm)] 9 (0, 0)) ∧ w.heap[q]? = some (.cells #[.int .i64 c.vt, .int .i64 c.vn, .string (bs c.vs)] 42 (0, 0))) ∨
  (c.wh = 4 ∧ ∃ p, fn = .func (.func 166) #[] #[.pointer (some ⟨p, 0, none⟩)] ∧ w.heap[p]? = some (.cells #[.string (bs c.fd.nm)] 9 (0, 0))) ∨
  (c.wh = 7 ∧ ∃ p q, fn = .func (.func 168) #[] #[.pointer (some ⟨p, 0, none⟩), .pointer (some ⟨q, 0, none⟩)] ∧ w.heap[p]? = some (.cells #[.string (bs c.fd.nm)] 9 (0, 0)) ∧ w.heap[q]? = some (.cells #[.string (bs c.tn)] 9 (0, 0))) ∨
  (¬ c.wh = 3 ∧ ¬ c.wh = 4 ∧ ¬ c.wh = 7 ∧ fn = .nilFunc)
theorem Turns.on {w w' : World} {c : Ch} {fn : Value} (h : Turns w c fn) (hB : Below w.heap.size w w') : Turns w' c fn := by
  have k : ∀ {b : Nat} {o : Obj}, w.heap[b]? = some o → w'.heap[b]? = some o := fun {b o} hb => (hB.block b (Array.getElem?_eq_some_iff.1 hb).1).trans hb
  rcases h with ⟨h, p, q, e, h1, h2⟩ | ⟨h, p, e, h1⟩ | ⟨h, p, q, e, h1, h2⟩ | h
  · exact .inl ⟨h, p, q, e, k h1, k h2⟩
  · exact .inr (.inl ⟨h, p, e, k h1⟩)
  · exact .inr (.inr (.inl ⟨h, p, q, e, k h1, k h2⟩))
  · exact .inr (.inr (.inr h))
theorem Turns.one {w : World} {c : Ch} {fn : Value} (h : Turns w c fn) : fn.oneCell' = true := by
  rcases h with ⟨_, p, q, e, _⟩ | ⟨_, p, e, _⟩ | ⟨_, p, q, e, _⟩ | ⟨_, _, _, e⟩ <;> (rw [e]; rfl)
def goes (K : List Nm) (n : Nd) : Bool := hasN K n.kd.toList
def ndX (c : Ch) (K : List Nm) (n : Nd) : Int := if goes K n = true then tnE c n.rc else 0
def ndY (c : Ch) (K : List Nm) (n : Nd) : List Pr := if goes K n = true then tnR c n.rc else n.rc
def NdP (w : World) (id : Int) (kd : ByteArray) (z : Int) (M : List Pr) (e : Ending) (w' : World) : Prop :=
  ∃ v, (z = 0 → e = .returned (.tuple #[.agg #[.int .i64 id, .string kd, v], .nilIface]) ∧ OwnRc w' w.heap.size v M) ∧ (¬ z = 0 → e = .returned (.tuple #[.agg #[.int .i64 0, .string ⟨#[]⟩, .slice none 0 0], errV z])) ∧ Below w.heap.size w w'
set_option maxHeartbeats 4000000 in
set_option maxRecDepth 100000 in
theorem wnode_stay2 {w : World} (c : Ch) {uk ub ks fn : Value} (dr : ByteArray) {K : List Nm} (n : Nd) (hks : IsS w ks K) (hKl : K.length ≤ 1000) (hR : IsR w n.rv n.rc) (hr : rErr n.rc = 0) (hu : ∃ a l c', uk = .slice a l c') (hub : ∃ a l c', ub = .slice a l c') (hg : goes K n = false) (hfn : fn = .nilFunc) :
    Calls Tryz.prog 170 #[.agg #[uk, ub, ks, fn, .string dr], n.one] w (NdP w n.id n.kd 0 n.rc) := by
  obtain ⟨u1, u2, u3, rfl⟩ := hu
  obtain ⟨b1, b2, b3, rfl⟩ := hub
  obtain ⟨k1, k2, k3, rfl⟩ := hks.sl
  subst hfn
  obtain ⟨id, kd, rv, rc⟩ := n
  simp only at hR hr
  obtain ⟨hsrt, h8⟩ := (rErr_srt rc).1 hr
  obtain ⟨av, lv, cv, hv⟩ := hR.sl
  subst hv
  obtain ⟨W0, hW0⟩ : ∃ W0, W0 = ((w.alloc (.cells #[.slice u1 u2 u3, .slice b1 b2 b3, .slice k1 k2 k3, .nilFunc, .string dr] 222)).alloc (.cells #[.int .i64 id, .string kd, .slice av lv cv] 40)).alloc (.cells #[.int .i64 0, .string ⟨#[]⟩, .slice none 0 0] 40) := ⟨_, rfl⟩
  have hB0 : Below w.heap.size w W0 := by rw [hW0]; exact b_alloc (b_alloc (b_alloc (Below.refl _ _) _) _) _
  have hz : W0.heap.size = w.heap.size + 3 := by rw [hW0]; simp
  have n0 : W0.heap[w.heap.size]? = some (.cells #[.slice u1 u2 u3, .slice b1 b2 b3, .slice k1 k2 k3, .nilFunc, .string dr] 222 (0, 0)) := by rw [hW0]; exact (heap_alloc_old _ _ (by simp; omega)).trans ((heap_alloc_old _ _ (by simp)).trans (heap_alloc_new w _))
  have n1 : W0.heap[w.heap.size + 1]? = some (.cells #[.int .i64 id, .string kd, .slice av lv cv] 40 (0, 0)) := by
    have := heap_alloc_new (w.alloc (.cells #[.slice u1 u2 u3, .slice b1 b2 b3, .slice k1 k2 k3, .nilFunc, .string dr] 222)) (.cells #[.int .i64 id, .string kd, .slice av lv cv] 40)
    rw [World.size_alloc] at this; rw [hW0]; exact (heap_alloc_old _ _ (by simp)).trans this
  have n2 : W0.heap[w.heap.size + 2]? = some (.cells #[.int .i64 0, .string ⟨#[]⟩, .slice none 0 0] 40 (0, 0)) := by
    have := heap_alloc_new ((w.alloc (.cells #[.slice u1 u2 u3, .slice b1 b2 b3, .slice k1 k2 k3, .nilFunc, .string dr] 222)).alloc (.cells #[.int .i64 id, .string kd, .slice av lv cv] 40)) (.cells #[.int .i64 0, .string ⟨#[]⟩, .slice none 0 0] 40)
    rw [World.size_alloc, World.size_alloc] at this; rw [hW0]; exact this
  have c1 := copiedNode_any ⟨id, kd, .slice av lv cv, rc⟩ W0 (hR.on hB0) (by simp only; omega)
  have a0 : W0.cell? ⟨w.heap.size + 1, 0, none⟩ = some (.int .i64 id) := cell_at n1 rfl
  have a1 : W0.cell? ⟨w.heap.size + 1, 1, none⟩ = some (.string kd) := cell_at n1 rfl
  have a2 : W0.cell? ⟨w.heap.size + 1, 2, none⟩ = some (.slice av lv cv) := cell_at n1 rfl
  have HN : Hid (∀ W1 v2, OwnRc W1 W0.heap.size v2 rc → Below W0.heap.size W0 W1 → (W1.cell? ⟨w.heap.size + 1, 0, none⟩ = some (.int .i64 id) ∧ W1.cell? ⟨w.heap.size + 1, 1, none⟩ = some (.string kd) ∧ W1.cell? ⟨w.heap.size + 1, 2, none⟩ = some (.slice av lv cv)) ∧ (W1.frozen? ⟨w.heap.size + 1, 0, none⟩ = false ∧ W1.frozen? ⟨w.heap.size + 1, 1, none⟩ = false ∧ W1.frozen? ⟨w.heap.size + 1, 2, none⟩ = false) ∧ ∀ WA, WA = ((W1.setCell ⟨w.heap.size + 1, 0, none⟩ (.int .i64 id)).setCell ⟨w.heap.size + 1, 1, none⟩ (.string kd)).setCell ⟨w.heap.size + 1, 2, none⟩ v2 → WA.heap[w.heap.size]? = some (.cells #[.slice u1 u2 u3, .slice b1 b2 b3, .slice k1 k2 k3, .nilFunc, .string dr] 222 (0, 0)) ∧ WA.heap[w.heap.size + 1]? = some (.cells #[.int .i64 id, .string kd, v2] 40 (0, 0)) ∧ WA.heap[w.heap.size + 2]? = some (.cells #[.int .i64 0, .string ⟨#[]⟩, .slice none 0 0] 40 (0, 0)) ∧ OwnRc WA (w.heap.size + 3) v2 rc ∧ Below w.heap.size w WA ∧ w.heap.size + 3 ≤ WA.heap.size) := fun W1 v2 ho hB => by
    have x0 := (hB.block _ (Array.getElem?_eq_some_iff.1 n0).1).trans n0
    have x1 := (hB.block _ (Array.getElem?_eq_some_iff.1 n1).1).trans n1
    have x2 := (hB.block _ (Array.getElem?_eq_some_iff.1 n2).1).trans n2
    refine ⟨⟨cell_at x1 rfl, cell_at x1 rfl, cell_at x1 rfl⟩, ⟨frz_at x1, frz_at x1, frz_at x1⟩, fun WA hWA => ?_⟩
    have y : ∀ b, b ≠ w.heap.size + 1 → WA.heap[b]? = W1.heap[b]? := fun b hb => by
      rw [hWA]; exact (heap_setCell_other _ ⟨w.heap.size + 1, 2, none⟩ b _ hb).trans ((heap_setCell_other _ ⟨w.heap.size + 1, 1, none⟩ b _ hb).trans (heap_setCell_other _ ⟨w.heap.size + 1, 0, none⟩ b _ hb))
    have y1 : WA.heap[w.heap.size + 1]? = some (.cells #[.int .i64 id, .string kd, v2] 40 (0, 0)) := by rw [hWA]; exact heap_setCell_same _ _ 2 _ 40 _ (heap_setCell_same _ _ 1 _ 40 _ (heap_setCell_same W1 _ 0 _ 40 _ x1))
    refine ⟨(y _ (by omega)).trans x0, y1, (y _ (by omega)).trans x2, ?_, ?_, ?_⟩
    · rw [hWA]; rw [hz] at ho; exact OwnRc.kt ho ((Kt.refl _ _).ty3 ⟨_, x1⟩ (by decide) _ _ _ _ _ _)
    · rw [hWA]; exact below_set3 (on1K hB0 hB (Nat.le_refl _)) (by omega) _ _ _ _ _ _
    · rw [hWA]; simp; have := hB.size; omega
  have HE : Hid (∀ W' v' M, W'.heap[w.heap.size + 1]? = some (.cells #[.int .i64 id, .string kd, v'] 40 (0, 0)) → W'.heap[w.heap.size + 2]? = some (.cells #[.int .i64 0, .string ⟨#[]⟩, .slice none 0 0] 40 (0, 0)) → OwnRc W' (w.heap.size + 3) v' M → Below w.heap.size w W' → ((W'.cell? ⟨w.heap.size + 1, 0, none⟩ = some (.int .i64 id) ∧ W'.cell? ⟨w.heap.size + 1, 1, none⟩ = some (.string kd) ∧ W'.cell? ⟨w.heap.size + 1, 2, none⟩ = some v') ∧ (W'.cell? ⟨w.heap.size + 2, 0, none⟩ = some (.int .i64 0) ∧ W'.cell? ⟨w.heap.size + 2, 1, none⟩ = some (.string ⟨#[]⟩) ∧ W'.cell? ⟨w.heap.size + 2, 2, none⟩ = some (.slice none 0 0)) ∧ (W'.frozen? ⟨w.heap.size + 2, 0, none⟩ = false ∧ W'.frozen? ⟨w.heap.size + 2, 1, none⟩ = false ∧ W'.frozen? ⟨w.heap.size + 2, 2, none⟩ = false)) ∧ ∀ WB, WB = ((W'.setCell ⟨w.heap.size + 2, 0, none⟩ (.int .i64 id)).setCell ⟨w.heap.size + 2, 1, none⟩ (.string kd)).setCell ⟨w.heap.size + 2, 2, none⟩ v' → (WB.cell? ⟨w.heap.size + 2, 0, none⟩ = some (.int .i64 id) ∧ WB.cell? ⟨w.heap.size + 2, 1, none⟩ = some (.string kd) ∧ WB.cell? ⟨w.heap.size + 2, 2, none⟩ = some v') ∧ OwnRc WB w.heap.size v' M ∧ Below w.heap.size w WB) := fun W' v' M x1 x2 ho hB => by
    refine ⟨⟨⟨cell_at x1 rfl, cell_at x1 rfl, cell_at x1 rfl⟩, ⟨cell_at x2 rfl, cell_at x2 rfl, cell_at x2 rfl⟩, frz_at x2, frz_at x2, frz_at x2⟩, fun WB hWB => ?_⟩
    have y2 : WB.heap[w.heap.size + 2]? = some (.cells #[.int .i64 id, .string kd, v'] 40 (0, 0)) := by rw [hWB]; exact heap_setCell_same _ _ 2 _ 40 _ (heap_setCell_same _ _ 1 _ 40 _ (heap_setCell_same W' _ 0 _ 40 _ x2))
    refine ⟨⟨cell_at y2 rfl, cell_at y2 rfl, cell_at y2 rfl⟩, ?_, ?_⟩
    · rw [hWB]; exact own_base (OwnRc.kt ho ((Kt.refl _ _).ty3 ⟨_, x2⟩ (by decide) _ _ _ _ _ _)) (by omega)
    · rw [hWB]; exact below_set3 hB (by omega) _ _ _ _ _ _
  have cK : ∀ W, Below w.heap.size w W → Calls Tryz.prog 66 #[.slice k1 k2 k3, .string kd] W fun e w' => e = .returned (.bool false) ∧ w' = W := fun W hB => by
    have := contains_any (hks.on hB) hKl kd.toList
    rw [bs_self] at this
    have e : hasN K kd.toList = false := hg
    rwa [e] at this
  clear hR hr hsrt h8 hks hg n0 n1 n2 hz hB0
  go_enter Tryz.func170, Tryz.ntmps170
  go_upto_region 1 with fail
  rw [← hW0]
  clear hW0
  go_upto_region 2 with (go_at_call 109; refine c1.mono ?_; rintro e W1 ⟨v2, rfl, ho2, hB2⟩; obtain ⟨⟨e0, e1, e2⟩, ⟨f0, f1, f2⟩, hA⟩ := HN.out W1 v2 ho2 hB2; obtain ⟨a2', l2', c2', rfl⟩ := OwnRc.sl ho2; have HA := Lib.hid hA; clear hA ho2 hB2)
  obtain ⟨WA, hWA⟩ : ∃ WA, WA = ((W1.setCell ⟨w.heap.size + 1, 0, none⟩ (.int .i64 id)).setCell ⟨w.heap.size + 1, 1, none⟩ (.string kd)).setCell ⟨w.heap.size + 1, 2, none⟩ (.slice a2' l2' c2') := ⟨_, rfl⟩
  obtain ⟨x0, x1, x2, ho, hB, _⟩ := HA.out WA hWA
  rw [← hWA]
  clear hWA HA e0 e1 e2 f0 f1 f2 HN
  have cKA := cK WA hB
  obtain ⟨⟨⟨p0, p1, p2⟩, ⟨q0, q1, q2⟩, r0, r1, r2⟩, hE⟩ := HE.out WA _ _ x1 x2 ho hB
  have HE2 := Lib.hid hE
  have m2 : WA.cell? ⟨w.heap.size, 2, none⟩ = some (.slice k1 k2 k3) := cell_at x0 rfl
  clear hE HE x0 x1 x2 ho hB cK a0 a1 a2 c1
  go_wp2_with (go_at_call 66; refine cKA.mono ?_; rintro e w' ⟨rfl, rfl⟩)
  obtain ⟨⟨z0, z1, z2⟩, z3, z4⟩ := HE2.out _ rfl
  refine bodyPost_ret (v := .tuple #[.agg #[.int .i64 id, .string kd, .slice a2' l2' c2'], .nilIface]) ?_ rfl ⟨_, fun _ => ⟨rfl, z3⟩, fun h => absurd rfl h, z4⟩
  simp [results, Tryz.results170, go_sem, z0, z1, z2]
def Fit (c : Ch) (K : List Nm) : Prop := K = [] ∧ c.wh = 1
theorem wnode_any {w : World} (c : Ch) {uk ub ks fn : Value} (dr : ByteArray) {K : List Nm} (n : Nd) (hks : IsS w ks K) (hKl : K.length ≤ 1000) (hT : Turns w c fn) (hR : IsR w n.rv n.rc) (hr : rErr n.rc = 0) (hu : ∃ a l c', uk = .slice a l c') (hub : ∃ a l c', ub = .slice a l c') (hf : Fit c K) (hsz : Sz [c.pr]) :
    Calls Tryz.prog 170 #[.agg #[uk, ub, ks, fn, .string dr], n.one] w (NdP w n.id n.kd (ndX c K n) (ndY c K n)) := by
  obtain ⟨rfl, h1⟩ := hf
  have hg : goes [] n = false := by simp [goes, hasN]
  unfold ndX ndY
  rw [if_neg (by rw [hg]; decide), if_neg (by rw [hg]; decide)]
  rcases hT with ⟨h, _⟩ | ⟨h, _⟩ | ⟨h, _⟩ | ⟨_, _, _, e⟩
  · omega
  · omega
  · omega
  · exact wnode_stay2 c dr n hks hKl hR hr hu hub hg e
def allX (c : Ch) (K : List Nm) : List Nd → Int
  | [] => 0
  | n :: r => if ndX c K n = 0 then allX c K r else ndX c K n
def ndT (c : Ch) (K : List Nm) (n : Nd) : Nd := ⟨n.id, n.kd, .nilIface, ndY c K n⟩
theorem allX_app (c : Ch) (K : List Nm) : ∀ (A B : List Nd), allX c K A = 0 → allX c K (A ++ B) = allX c K B
  | [], _, _ => rfl
  | n :: r, B, h => by
    unfold allX at h
    by_cases hz : ndX c K n = 0
    · rw [if_pos hz] at h
      show (if ndX c K n = 0 then allX c K (r ++ B) else _) = _
      rw [if_pos hz, allX_app c K r B h]
    · rw [if_neg hz] at h; exact absurd h hz
theorem takeN {N : List Nd} {k : Nat} {n : Nd} (h : N[k]? = some n) : N.take (k + 1) = N.take k ++ [n] := by rw [List.take_add_one, h]; rfl
def NsI (w : World) (c : Ch) (K : List Nm) (N : List Nd) (k : Nat) (u : Value) (wr : World) : Prop := ∃ M : List Nd, M.length = k ∧ cN M = (N.take k).map (ndT c K) ∧ allX c K (N.take k) = 0 ∧ OwnNs wr w.heap.size u M ∧ Below w.heap.size w wr
def NsP (w : World) (c : Ch) (K : List Nm) (N : List Nd) (e : Ending) (w' : World) : Prop :=
  (allX c K N = 0 → ∃ u M, e = .returned (.tuple #[u, .nilIface]) ∧ cN M = N.map (ndT c K) ∧ OwnNs w' w.heap.size u M) ∧ (¬ allX c K N = 0 → e = .returned (.tuple #[.slice none 0 0, errV (allX c K N)])) ∧ Below w.heap.size w w'
theorem nsI_step {w wr w1 : World} {c : Ch} {K : List Nm} {N M : List Nd} {k : Nat} {n : Nd} {u u1 v : Value} (hn : N[k]? = some n) (hM : M.length = k) (hc : cN M = (N.take k).map (ndT c K)) (ha : allX c K (N.take k) = 0) (hz : ndX c K n = 0) (hN : OwnNs wr w.heap.size u M) (hB : Below w.heap.size w wr)
    {W2 : World} (hB2 : Below wr.heap.size wr W2) (hR : OwnRc W2 wr.heap.size v (ndY c K n)) (hg : W2.grownBy w1 u.ownBlock) (ho : w1.ownsRow w.heap.size 40 3 u1 (k + 1) (cellsN M ++ [.int .i64 n.id, .string n.kd, v])) : NsI w c K N (k + 1) u1 w1 := by
  have o2 := own_kt hN.1 (Kt.of_below (t := 40) hB2)
  have k52 : Kt 44 wr w1 := (Kt.of_below hB2).trans (Kt.of_own o2 (by decide) hg)
  have k52' : Kt 44 W2 w1 := Kt.of_own o2 (by decide) hg
  refine ⟨M ++ [⟨n.id, n.kd, v, ndY c K n⟩], by simp [hM], ?_, ?_, ⟨?_, fun x hx => ?_⟩, ?_⟩
  · rw [takeN hn, List.map_append, ← hc]; simp [cN, Nd.c, ndT]
  · rw [takeN hn, allX_app c K _ _ ha]; unfold allX; rw [if_pos hz]; rfl
  · rw [List.length_append, hM, cellsN_snoc]; exact ho
  · rcases List.mem_append.1 hx with hx | hx
    · exact (hN.2 x hx).kt k52
    · obtain rfl : x = ⟨n.id, n.kd, v, ndY c K n⟩ := by simpa using hx
      exact OwnRc.kt (own_base hR hB.size) k52'
  · exact below_grown (on1K hB hB2 (Nat.le_refl _)) hg (Nat.le_trans hB.size hB2.size) (fun g hg' => (o2.lt g hg').1)
set_option maxHeartbeats 8000000 in
set_option maxRecDepth 100000 in
theorem wnodes_any {w : World} (c : Ch) {uk ub ks fn vl : Value} (dr : ByteArray) {K : List Nm} {N : List Nd} (hN : IsN w vl N) (hl : N.length ≤ 1000) (hks : IsS w ks K) (hKl : K.length ≤ 1000) (hT : Turns w c fn) (hr : ∀ n ∈ N, rErr n.rc = 0) (hu : ∃ a l c', uk = .slice a l c') (hub : ∃ a l c', ub = .slice a l c') (hf : Fit c K) (hsz : Sz [c.pr]) :
    Calls Tryz.prog 136 #[.agg #[uk, ub, ks, fn, .string dr], vl] w (NsP w c K N) := by
  obtain ⟨i0, hi0, hz0, hz1, hz2⟩ := info_parts infoN
  have hf1 := hT.one
  have HK : Hid (IsS w ks K ∧ K.length ≤ 1000 ∧ Turns w c fn ∧ (∀ n ∈ N, rErr n.rc = 0) ∧ Fit c K ∧ Sz [c.pr] ∧ (∃ a l c', uk = .slice a l c') ∧ (∃ a l c', ub = .slice a l c')) := ⟨hks, hKl, hT, hr, hf, hsz, hu, hub⟩
  obtain ⟨u1, u2, u3, rfl⟩ := hu
  obtain ⟨b1, b2, b3, rfl⟩ := hub
  obtain ⟨k1, k2, k3, rfl⟩ := hks.sl
  obtain ⟨W0, hW0⟩ : ∃ W0, W0 = w.alloc (.cells #[.slice u1 u2 u3, .slice b1 b2 b3, .slice k1 k2 k3, fn, .string dr] 222) := ⟨_, rfl⟩
  have hB0 : Below w.heap.size w W0 := by rw [hW0]; exact b_alloc (Below.refl _ _) _
  have n0 : W0.heap[w.heap.size]? = some (.cells #[.slice u1 u2 u3, .slice b1 b2 b3, .slice k1 k2 k3, fn, .string dr] 222 (0, 0)) := by rw [hW0]; exact heap_alloc_new w _
  have HN := Lib.hid hN
  have HW : Hid (∀ W, Below W0.heap.size W0 W → W.heap[w.heap.size]? = some (.cells #[.slice u1 u2 u3, .slice b1 b2 b3, .slice k1 k2 k3, fn, .string dr] 222 (0, 0))) := fun W hB => (hB.block _ (Array.getElem?_eq_some_iff.1 n0).1).trans n0
  have HB0 := Lib.hid hB0
  have hw0 : w.heap.size < W0.heap.size := (Array.getElem?_eq_some_iff.1 n0).1
  obtain ⟨an, cn, rfl, _⟩ := hN
  clear hks hKl hT hr hf hsz hB0 n0
  go_enter Tryz.func136, Tryz.ntmps136
  go_upto_region 1 with fail
  rw [← hW0]
  clear hW0
  go_wp2
  go_loopw [6, 13] (fun u i wr => ∃ k : Nat, k ≤ N.length ∧ i = .int .i64 k ∧ NsI W0 c K N k u wr) (fun _ i _ => N.length - (intOf i).toNat)
  case atStart => exact ⟨0, Nat.zero_le _, rfl, ⟨[], rfl, rfl, rfl, ⟨World.ownsRow_nil _ _ _ _, fun n hn => by cases hn⟩, Below.refl _ _⟩⟩
  case round =>
    obtain ⟨k, hk, rfl, M, hM, hc, ha, hO, hB⟩ := hrel
    obtain ⟨a1, p1, e1⟩ := own_slice hO.1
    rw [hM] at e1
    subst e1
    have hBw := on1K HB0.out hB (Nat.le_refl _)
    by_cases hlt : k < N.length
    · obtain ⟨n, hn⟩ : ∃ n, N[k]? = some n := ⟨N[k], by simp [hlt]⟩
      obtain ⟨b, off, ean, hbl, ⟨d0, d1, d2⟩, hR0⟩ : ∃ b off, an = some ⟨b, off, none⟩ ∧ b < w.heap.size ∧ (w.cell? ⟨b, off + k * 3, none⟩ = some (.int .i64 n.id) ∧ w.cell? ⟨b, off + k * 3 + 1, none⟩ = some (.string n.kd) ∧ w.cell? ⟨b, off + k * 3 + 2, none⟩ = some n.rv) ∧ IsR w n.rv n.rc := by
        obtain ⟨a', c', e, hle, h0 | ⟨b, off, e2, hb, hL⟩⟩ := HN.out
        · rw [h0] at hlt; simp at hlt
        · injection e with e _ _
          obtain ⟨q0, q1, q2, q3⟩ := hL k n hn
          exact ⟨b, off, e.trans e2, hb, ⟨q0, q1, q2⟩, q3⟩
      subst ean
      have d0 := (hBw.cell (p := ⟨b, off + k * 3, none⟩) hbl).trans d0
      have d1 := (hBw.cell (p := ⟨b, off + k * 3 + 1, none⟩) hbl).trans d1
      have d2 := (hBw.cell (p := ⟨b, off + k * 3 + 2, none⟩) hbl).trans d2
      obtain ⟨av, lv, cv, hv⟩ := hR0.sl
      have hrn := HK.out.2.2.2.1 n (List.mem_of_getElem? hn)
      have HA : Hid (N[k]? = some n ∧ M.length = k ∧ cN M = (N.take k).map (ndT c K) ∧ allX c K (N.take k) = 0 ∧ OwnNs wr W0.heap.size (.slice a1 k p1) M ∧ Below W0.heap.size W0 wr) := ⟨hn, hM, hc, ha, hO, hB⟩
      obtain ⟨id, kd, rv, rc⟩ := n
      simp only at hv d0 d1 d2 hR0 hrn
      subst hv
      obtain ⟨W1, hW1⟩ : ∃ W1, W1 = wr.alloc (.cells #[.int .i64 id, .string kd, .slice av lv cv] 40) := ⟨_, rfl⟩
      have hB1 : Below wr.heap.size wr W1 := by rw [hW1]; exact b_alloc (Below.refl _ _) _
      have nn : W1.heap[wr.heap.size]? = some (.cells #[.int .i64 id, .string kd, .slice av lv cv] 40 (0, 0)) := by rw [hW1]; exact heap_alloc_new wr _
      have hBw1 := on1K hBw hB1 (Nat.le_refl _)
      have cN1 := wnode_any c dr ⟨id, kd, .slice av lv cv, rc⟩ (HK.out.1.on hBw1) HK.out.2.1 (HK.out.2.2.1.on hBw1) (hR0.on hBw1) hrn HK.out.2.2.2.2.2.2.1 HK.out.2.2.2.2.2.2.2 HK.out.2.2.2.2.1 HK.out.2.2.2.2.2.1
      have xw := HW.out W1 (on1K hB hB1 (Nat.le_refl _))
      have w0 : W1.cell? ⟨w.heap.size, 0, none⟩ = some (.slice u1 u2 u3) := cell_at xw rfl
      have w1 : W1.cell? ⟨w.heap.size, 1, none⟩ = some (.slice b1 b2 b3) := cell_at xw rfl
      have w2 : W1.cell? ⟨w.heap.size, 2, none⟩ = some (.slice k1 k2 k3) := cell_at xw rfl
      have w3 : W1.cell? ⟨w.heap.size, 3, none⟩ = some fn := cell_at xw rfl
      have w4 : W1.cell? ⟨w.heap.size, 4, none⟩ = some (.string dr) := cell_at xw rfl
      have e0 : W1.cell? ⟨wr.heap.size, 0, none⟩ = some (.int .i64 id) := cell_at nn rfl
      have e1 : W1.cell? ⟨wr.heap.size, 1, none⟩ = some (.string kd) := cell_at nn rfl
      have e2 : W1.cell? ⟨wr.heap.size, 2, none⟩ = some (.slice av lv cv) := cell_at nn rfl
      have HB1 : Hid (Below wr.heap.size wr W1 ∧ Below w.heap.size w W1) := ⟨hB1, hBw1⟩
      have hnb : ¬ b = wr.heap.size := by have := hBw.size; omega
      unfold NdP at cN1
      by_cases hz : ndX c K ⟨id, kd, .slice av lv cv, rc⟩ = 0
      · have HZ := Lib.hid hz
        rw [hz] at cN1
        have HO : Hid (∀ W2 v, Below W1.heap.size W1 W2 → ∀ o, ((W2.alloc o).alloc (.cells #[.int .i64 id, .string kd, v] 40)).ownsRow W0.heap.size 40 3 (.slice a1 k p1) k (cellsN M) ∧ W0.heap.size ≤ ((W2.alloc o).alloc (.cells #[.int .i64 id, .string kd, v] 40)).heap.size ∧ Below wr.heap.size wr ((W2.alloc o).alloc (.cells #[.int .i64 id, .string kd, v] 40))) := fun W2 v h2 o => by
          have hBx := on1K HB1.out.1 (on1K h2 (b_alloc (b_alloc (Below.refl _ W2) o) (.cells #[.int .i64 id, .string kd, v] 40)) (Nat.le_refl _)) (Nat.le_refl _)
          have := own_kt HA.out.2.2.2.2.1.1 (Kt.of_below (t := 40) hBx)
          rw [HA.out.2.1] at this
          exact ⟨this, Nat.le_trans HA.out.2.2.2.2.2.size hBx.size, hBx⟩
        have HM : Hid (k + 1 ≤ maxLen ∧ (k + 1) * 48 ≤ 140737488355328) := by unfold maxLen; exact ⟨by omega, by omega⟩
        have HNA : Hid (∀ (W2 : World) (o : Obj) (v : Value), ∀ j u, [Value.int .i64 id, .string kd, v][j]? = some u → ((W2.alloc o).alloc (.cells #[.int .i64 id, .string kd, v] 40)).cell? ((⟨W2.heap.size + 1, 0, none⟩ : Addr).add j) = some u) := fun W2 o v j u hu => by
          have := new_at (W2.alloc o) [.int .i64 id, .string kd, v] 40 j u hu
          rwa [World.size_alloc] at this
        clear hM hc ha hO hB hR0 hrn hB1 nn hn xw hBw1 hbl hz hBw
        go_upto_region 5 with fail
        rw [← hW1]
        clear hW1
        go_wp2_with (first | (go_at_call 170; refine cN1.mono ?_; rintro e W2 ⟨v2, hy, _, hB2⟩; obtain ⟨rfl, hR2⟩ := hy (by simp); obtain ⟨u2', l2', q2', rfl⟩ := OwnRc.sl hR2; have HR2 := Lib.hid (And.intro hR2 hB2); clear hy hR2 hB2; refine Hid.out ?_))
        refine Lib.hid ?_
        have hoo := HO.out W2 (.slice u2' l2' q2') HR2.out.2 (.cells #[.int .i64 id, .string kd, .slice u2' l2' q2'] 40)
        have HOO := Lib.hid hoo
        clear hoo cN1 w0 w1 w2 w3 w4 e0 e1 e2 d0 d1 d2
        go_wp2_with (first | (at_builtin; refine wpList_append_own _ rfl (.tmp 26) (.tmp 28) 64 rfl W0.heap.size 40 i0 _ 3 48 Tryz.underlying64 hi0 hz0 hz1 hz2 rfl (by decide) (.slice a1 k p1) k (cellsN M) rfl HOO.out.1 ⟨W2.heap.size + 1, 0, none⟩ 1 1 [.int .i64 id, .string kd, .slice u2' l2' q2'] rfl rfl (HNA.out W2 _ _) (by simp [Value.oneCell']) HM.out.1 HM.out.2 HOO.out.2.1 ?_; intro v3 w3 hown3 hgrow3 _))
        obtain ⟨hn, hM, hc, ha, hO, hB⟩ := HA.out
        have hst := nsI_step hn hM hc ha HZ.out hO hB HOO.out.2.2 (OwnRc.kt (own_base HR2.out.1 HB1.out.1.size) (Kt.of_below (b_alloc (b_alloc (Below.refl _ W2) _) _))) hgrow3 hown3
        refine ⟨⟨k + 1, hlt, ?_, hst⟩, ?_⟩
        · go_num
        · simp [intOf]
          omega
      · have HZ : Hid (¬ ndX c K ⟨id, kd, .slice av lv cv, rc⟩ = 0 ∧ allX c K N = ndX c K ⟨id, kd, .slice av lv cv, rc⟩) := ⟨hz, by
          rw [← List.take_append_drop k N, allX_app c K _ _ ha, List.drop_eq_getElem_cons hlt]
          have : N[k] = ⟨id, kd, .slice av lv cv, rc⟩ := (List.getElem?_eq_some_iff.1 hn).2
          rw [this]
          unfold allX
          rw [if_neg hz]⟩
        have HQ : Hid (∀ (e : Ending) (W2 : World) (v : Value), (¬ ndX c K ⟨id, kd, .slice av lv cv, rc⟩ = 0 → e = .returned (.tuple #[.agg #[.int .i64 0, .string ⟨#[]⟩, .slice none 0 0], errV (ndX c K ⟨id, kd, .slice av lv cv, rc⟩)])) → e = .returned (.tuple #[.agg #[.int .i64 0, .string ⟨#[]⟩, .slice none 0 0], .iface 76 (.int .i64 (allX c K N))])) := fun e W2 v h => by rw [h HZ.out.1, errV_ne HZ.out.1, HZ.out.2]
        have HP : Hid (∀ W2 o, Below W1.heap.size W1 W2 → NsP w c K N (.returned (.tuple #[.slice none 0 0, .iface 76 (.int .i64 (allX c K N))])) (W2.alloc o)) := fun W2 o h2 => ⟨fun h => absurd (HZ.out.2.symm.trans h) HZ.out.1, fun h => by rw [errV_ne h], on1K HB1.out.2 (b_alloc h2 o) (Nat.le_refl _)⟩
        generalize allX c K N = z at *
        clear hM hc ha hO hB hR0 hrn hB1 nn hn xw hBw1 hbl hz hBw
        go_upto_region 5 with fail
        rw [← hW1]
        clear hW1
        go_wp2_with (first | (go_at_call 170; refine cN1.mono ?_; rintro e W2 ⟨v2, _, hy, hB2⟩; obtain rfl := HQ.out e W2 v2 hy; have HB2 := Lib.hid hB2; clear hy hB2))
        go_ret2
        exact HP.out _ _ HB2.out
    · obtain rfl : k = N.length := by omega
      rw [List.take_length] at hc ha
      have HF : Hid (NsP w c K N (.returned (.tuple #[.slice a1 N.length p1, .nilIface])) wr) := ⟨fun _ => ⟨_, M, rfl, hc, own_base hO.1 HB0.out.size, fun n hn => own_base (hO.2 n hn) HB0.out.size⟩, fun h => absurd ha h, hBw⟩
      clear hM hc ha hO hB hBw
      go_wp2
      go_ret2
      exact HF.out
end Go.Proofs.YtahamkajkkkjdaaGreatDoor
