import Derived.Test.YtahamkajkkkjdaaGreatDoorM15
namespace Go.Proofs.YtahamkajkkkjdaaGreatDoor
open Go.RowKit
open Go.Maps (Keyed)
set_option linter.unusedVariables false
set_option linter.unusedSimpArgs false
theorem fieldS_len (id : Int) (rc : List Pr) (S : List Ft × Tk) (f : Fd) : (fieldS id rc S f).1.length ≤ S.1.length + 1 := by
  unfold fieldS; split
  · simp
  · split
    · simp
    · split <;> simp
theorem fieldF_len' (id : Int) (rc : List Pr) (fs : List Fd) : ∀ S : List Ft × Tk, (fs.foldl (fieldS id rc) S).1.length ≤ S.1.length + fs.length := by
  induction fs with
  | nil => intro S; simp
  | cons f r ih =>
    intro S
    simp only [List.foldl_cons, List.length_cons]
    have := ih (fieldS id rc S f)
    have := fieldS_len id rc S f
    omega
theorem fieldF_len (fs : List Fd) (id : Int) (rc : List Pr) (T : Tk) : (fieldF fs id rc T).1.length ≤ fs.length := by
  have := fieldF_len' id rc fs ([], T)
  simpa [fieldF] using this
theorem fieldS_no {id : Int} {rc : List Pr} {S : List Ft × Tk} {f : Fd} (h : noF rc f = true) : fieldS id rc S f = (S.1 ++ [⟨3, id, bs f.nm⟩], S.2) := by unfold fieldS; rw [if_pos h]
theorem fieldS_same {id : Int} {rc : List Pr} {S : List Ft × Tk} {f : Fd} (h : noF rc f = false) (h2 : sameF rc S.2 f = true) : fieldS id rc S f = (S.1 ++ [⟨4, id, bs f.nm⟩], S.2) := by unfold fieldS; rw [if_neg (by rw [h]; decide), if_pos h2]
theorem fieldS_put {id : Int} {rc : List Pr} {S : List Ft × Tk} {f : Fd} (h : noF rc f = false) (h2 : sameF rc S.2 f = false) (h3 : f.key = true) : fieldS id rc S f = (S.1, upd S.2 (keyP rc f) id) := by unfold fieldS; rw [if_neg (by rw [h]; decide), if_neg (by rw [h2]; decide), if_pos h3]
theorem fieldS_none {id : Int} {rc : List Pr} {S : List Ft × Tk} {f : Fd} (h : noF rc f = false) (h3 : f.key = false) : fieldS id rc S f = S := by
  have h2 : sameF rc S.2 f = false := by unfold sameF; rw [h3]; rfl
  unfold fieldS; rw [if_neg (by rw [h]; decide), if_neg (by rw [h2]; decide), if_neg (by rw [h3]; decide)]
theorem upd_map {κ α β : Type} [DecidableEq κ] (T : κ → Option α) (g : α → β) (x : κ) (a : α) : upd (fun y => (T y).map g) x (g a) = fun y => (upd T x a y).map g := by
  funext y
  unfold upd
  split <;> rfl
theorem look_in {κ : Type} {w : World} {k : TypeId} {enc : κ → Value} {b : Nat} {T : κ → Option Int} (h : OwnM w Tryz.prog k enc b (fun x => (T x).map (.int .i64))) (K : Keyed Tryz.prog k) (hinj : ∀ x y, enc x = enc y → x = y) {t e : TypeId} (ht : Tryz.prog.underlying t = some (.map k e)) (hz : (zeroValue e).run Tryz.prog w = .ok (.int .i64 0) w) {x : κ} {l : Lit} (hk : keyOf Tryz.prog k (enc x) = some l) :
    (Instr.lookup t (.map (some b)) (enc x) false).run Tryz.prog w = .ok (.int .i64 ((T x).getD 0)) w := by
  have := h.look K hinj ht hz hk false
  rw [this]
  simp only [Bool.false_eq_true, if_false]
  cases T x <;> rfl
theorem size3 (w : World) (a b c : Obj) : w.heap.size ≤ (((w.alloc a).alloc b).alloc c).heap.size := by simp; omega
theorem new_at2 (w : World) (o1 o2 : Obj) (f : Ft) : ∀ j u, f.cells[j]? = some u → (((w.alloc o1).alloc o2).alloc (.cells #[.int .i64 f.wh, .int .i64 f.id, .string f.nm] 300)).cell? ((⟨w.heap.size + 1 + 1, 0, none⟩ : Addr).add j) = some u := by
  have := new_atC ((w.alloc o1).alloc o2) f.cells 300
  simp only [World.size_alloc] at this
  exact this
def FfR (w W0 : World) (bt : Nat) (fs : List Fd) (id : Int) (rc : List Pr) (T : Tk) (u i : Value) (wr : World) : Prop :=
  ∃ k : Nat, k ≤ fs.length ∧ i = .int .i64 k ∧ OwnX wr (w.heap.size + 2) u ((fs.take k).foldl (fieldS id rc) ([], T)).1 ∧ OwnM wr Tryz.prog 359 encQ bt (fun x => (((fs.take k).foldl (fieldS id rc) ([], T)).2 x).map (.int .i64)) ∧ W0.grownBy wr (some bt)
section
variable {w W0 wr W3 : World} {bt k : Nat} {fs : List Fd} {id : Int} {rc : List Pr} {T : Tk} {u : Value}
theorem fr_same (hlt : k < fs.length) (h1 : OwnX wr (w.heap.size + 2) u ((fs.take k).foldl (fieldS id rc) ([], T)).1) (h2 : OwnM wr Tryz.prog 359 encQ bt (fun x => (((fs.take k).foldl (fieldS id rc) ([], T)).2 x).map (.int .i64))) (h3 : W0.grownBy wr (some bt)) (hB : Below wr.heap.size wr W3) (hws : w.heap.size + 2 ≤ wr.heap.size)
    (hS : ((fs.take (k + 1)).foldl (fieldS id rc) ([], T)) = ((fs.take k).foldl (fieldS id rc) ([], T))) : FfR w W0 bt fs id rc T u (.int .i64 ((k : Int) + 1)) W3 :=
  ⟨k + 1, hlt, by simp, by rw [hS]; exact own_below h1 hB, by rw [hS]; exact h2.of_block (hB.block _ h2.lt), but_below h3 hB⟩
theorem fr_put {w' : World} {x : KeyV} (hlt : k < fs.length) (h1 : OwnX wr (w.heap.size + 2) u ((fs.take k).foldl (fieldS id rc) ([], T)).1) (h2 : OwnM wr Tryz.prog 359 encQ bt (fun x => (((fs.take k).foldl (fieldS id rc) ([], T)).2 x).map (.int .i64))) (h3 : W0.grownBy wr (some bt)) (hB : Below wr.heap.size wr W3) (hws : w.heap.size + 2 ≤ wr.heap.size)
    (hS : ((fs.take (k + 1)).foldl (fieldS id rc) ([], T)) = (((fs.take k).foldl (fieldS id rc) ([], T)).1, upd ((fs.take k).foldl (fieldS id rc) ([], T)).2 x id)) (hp : OwnM w' Tryz.prog 359 encQ bt (upd (fun x => (((fs.take k).foldl (fieldS id rc) ([], T)).2 x).map (.int .i64)) x (.int .i64 id))) (hg : W3.grownBy w' (some bt)) : FfR w W0 bt fs id rc T u (.int .i64 ((k : Int) + 1)) w' := by
  refine ⟨k + 1, hlt, by simp, ?_, ?_, but_trans (but_below h3 hB) hg⟩
  · rw [hS]
    have h4 := own_below h1 hB
    refine ⟨h4.1, ?_⟩
    rcases h4.2 with h | ⟨g, cap, cur, hu, hb, hgl, rest⟩
    · exact .inl h
    · refine .inr ⟨g, cap, cur, hu, hb, (hg.block g (Array.getElem?_eq_some_iff.1 hgl).1 (fun e => ?_)).trans hgl, rest⟩
      obtain rfl : g = bt := by simpa using e
      obtain ⟨es, c, hm, _⟩ := h2.of_block (hB.block _ h2.lt)
      rw [hgl] at hm
      cases hm
  · rw [hS]
    rw [upd_map] at hp
    exact hp
theorem fr_fault {w1 : World} {f : Ft} {o : Obj} {v1 : Value} (hlt : k < fs.length) (h1 : OwnX wr (w.heap.size + 2) u ((fs.take k).foldl (fieldS id rc) ([], T)).1) (h2 : OwnM wr Tryz.prog 359 encQ bt (fun x => (((fs.take k).foldl (fieldS id rc) ([], T)).2 x).map (.int .i64))) (h3 : W0.grownBy wr (some bt)) (hB : Below wr.heap.size wr W3) (hws : w.heap.size + 2 ≤ wr.heap.size)
    (hS : ((fs.take (k + 1)).foldl (fieldS id rc) ([], T)) = (((fs.take k).foldl (fieldS id rc) ([], T)).1 ++ [f], ((fs.take k).foldl (fieldS id rc) ([], T)).2)) (hown : w1.ownsRow (w.heap.size + 2) 300 3 v1 (((fs.take k).foldl (fieldS id rc) ([], T)).1.length + 1) (cellsX ((fs.take k).foldl (fieldS id rc) ([], T)).1 ++ f.cells)) (hg : (W3.alloc o).grownBy w1 u.ownBlock) (hW : W0.heap.size = w.heap.size + 2 := by rfl) (hbt : bt < w.heap.size + 2 := by assumption) : FfR w W0 bt fs id rc T v1 (.int .i64 ((k : Int) + 1)) w1 := by
  have hB' : Below wr.heap.size wr (W3.alloc o) := b_allocKC hB (Nat.le_refl _) _
  have hrow : ∀ g, u.ownBlock = some g → w.heap.size + 2 ≤ g := fun g hg' => (h1.lt g hg').1
  refine ⟨k + 1, hlt, by simp, ?_, ?_, but_app (but_below h3 hB') hg (fun g hg' => by have := hrow g hg'; omega)⟩
  · rw [hS]; unfold OwnX; rw [cellsX_snoc, List.length_append]; exact hown
  · rw [hS]
    exact h2.of_block ((hg.block _ (Nat.lt_of_lt_of_le h2.lt hB'.size) (fun e => by have := hrow bt e.symm; omega)).trans (hB'.block _ h2.lt))
end
def VOk (rc : List Pr) : Prop := ∀ p ∈ rc, in64 p.t ∧ in64 p.n ∧ p.s.size ≤ maxLen
theorem key_ok {rc : List Pr} (hv : VOk rc) {f : Fd} (hf : f.nm.length ≤ maxLen) : ∃ l, keyOf Tryz.prog 359 (encQ (keyP rc f)) = some l := by
  have h1 : (bs f.nm).size ≤ maxLen := by rw [bs_size]; exact hf
  unfold keyP
  cases hg : getP f.nm rc with
  | none => exact keyK h1 (in64_of (n := 0) (by decide) (by decide)) (in64_of (n := 0) (by decide) (by decide)) (Nat.zero_le _)
  | some p =>
    have hm : p ∈ rc := by
      unfold getP at hg
      split at hg
      · cases hg
      · exact List.mem_of_getElem? hg
    obtain ⟨a, b, c⟩ := hv p hm
    exact keyK h1 a b c
def FfPost (w : World) (bt : Nat) (l : List Ft) (T : Tk) (e : Ending) (w' : World) : Prop := ∃ u, e = .returned u ∧ OwnX w' w.heap.size u l ∧ MapIn w' 359 encQ bt T ∧ w.grownBy w' (some bt)
theorem errV_5K : errV 5 = .iface 76 (.int .i64 5) := rfl
theorem IsF.at {w : World} {v : Value} {L : List Fd} (h : IsF w v L) {k : Nat} {f : Fd} (hf : L[k]? = some f) : ∃ b off c, v = .slice (some ⟨b, off, none⟩) L.length c ∧ b < w.heap.size ∧ w.cell? ⟨b, off + k * 4, none⟩ = some (.string (bs f.nm)) ∧ w.cell? ⟨b, off + k * 4 + 1, none⟩ = some (.int .i64 f.t) ∧ w.cell? ⟨b, off + k * 4 + 2, none⟩ = some (.bool f.must) ∧ w.cell? ⟨b, off + k * 4 + 3, none⟩ = some (.bool f.key) := by
  rcases h with ⟨ao, c, rfl, rfl, _⟩ | ⟨b, off, cap, rfl, hcap, hm, hb, hl⟩
  · simp at hf
  · exact ⟨b, off, cap, rfl, hb, hl k f hf⟩
set_option maxHeartbeats 8000000 in
set_option maxRecDepth 100000 in
theorem fieldFaults_any {v : Value} {h : Sh} {n : Nd} {w : World} {bt : Nat} {T : Tk} (hs : IsSh w v h) (hf8 : h.fs.length ≤ 8) (hfz : ∀ f ∈ h.fs, f.nm.length ≤ maxLen) (hr : IsR w n.rv n.rc) (hsz : Sz n.rc) (hre : rErr n.rc = 0) (hvo : VOk n.rc) (hm : MapIn w 359 encQ bt T) :
    Calls Tryz.prog 196 #[v, n.one, .map (some bt)] w (FfPost w bt (fieldF h.fs n.id n.rc T).1 (fieldF h.fs n.id n.rc T).2) := by
  obtain ⟨i0, hi0, hz0, hz1, hz2⟩ := info_parts infoX
  obtain ⟨vk, vf, vb, rfl, h1, h2, h3⟩ := hs
  have HF : Hid (IsF w vf h.fs) := h2
  obtain ⟨a1, c1, rfl, _⟩ := h1.sln
  obtain ⟨a2, c2, rfl, _⟩ := h2.sln
  obtain ⟨a3, c3, rfl, _⟩ := h3.sln
  obtain ⟨id, kd, rv, rc⟩ := n
  simp only at hr hsz hre hvo ⊢
  have HRc : Hid (IsR w rv rc ∧ Sz rc ∧ rErr rc = 0 ∧ VOk rc) := ⟨hr, hsz, hre, hvo⟩
  have hbt0 : bt < w.heap.size := OwnM.lt hm
  have hbt : bt < w.heap.size + 2 := by omega
  have HM : Hid (MapIn w 359 encQ bt T) := hm
  obtain ⟨av, cv, rfl, _⟩ := hr
  have HFz : Hid (∀ f ∈ h.fs, f.nm.length ≤ maxLen) := hfz
  obtain ⟨fs, hfs⟩ : ∃ fs, fs = h.fs := ⟨_, rfl⟩
  rw [← hfs] at HF hf8 HFz ⊢
  generalize h.kn.length = lk
  generalize h.bn.length = lb
  clear hfs h1 h2 h3 hsz hre hvo hm hfz
  have HB0 : Hid (Below w.heap.size w (box2 w #[.slice a1 lk c1, .slice a2 fs.length c2, .slice a3 lb c3] 289 #[.int .i64 id, .string kd, .slice av rc.length cv] 40)) := box2_below _ _ _ _ _
  have HC : Hid ((box2 w #[.slice a1 lk c1, .slice a2 fs.length c2, .slice a3 lb c3] 289 #[.int .i64 id, .string kd, .slice av rc.length cv] 40).cell? ⟨w.heap.size + 1, 0, none⟩ = some (.int .i64 id) ∧ (box2 w #[.slice a1 lk c1, .slice a2 fs.length c2, .slice a3 lb c3] 289 #[.int .i64 id, .string kd, .slice av rc.length cv] 40).cell? ⟨w.heap.size + 1, 2, none⟩ = some (.slice av rc.length cv)) := ⟨box2_b _ _ _ _ _ rfl, box2_b _ _ _ _ _ rfl⟩
  go_enter Tryz.func196, Tryz.ntmps196
  go_wp2
  go_loopw [6, 16] (fun u i wr => FfR w (box2 w #[.slice a1 lk c1, .slice a2 fs.length c2, .slice a3 lb c3] 289 #[.int .i64 id, .string kd, .slice av rc.length cv] 40) bt fs id rc T u i wr) (fun _ i _ => fs.length - (intOf i).toNat)
  case atStart => exact ⟨0, Nat.zero_le _, rfl, World.ownsRow_nil _ _ _ _, OwnM.of_block HM.out (HB0.out.block _ hbt0), but_of_below (Below.refl _ _) _⟩
  case round =>
    obtain ⟨k, hk, rfl, hO, hM, hG⟩ := hrel
    have HR : Hid (OwnX wr (w.heap.size + 2) u6 ((fs.take k).foldl (fieldS id rc) ([], T)).1 ∧ OwnM wr Tryz.prog 359 encQ bt (fun x => (((fs.take k).foldl (fieldS id rc) ([], T)).2 x).map (.int .i64)) ∧ World.grownBy (box2 w #[.slice a1 lk c1, .slice a2 fs.length c2, .slice a3 lb c3] 289 #[.int .i64 id, .string kd, .slice av rc.length cv] 40) wr (some bt)) := ⟨hO, hM, hG⟩
    have hmap : ∃ es c, (box2 w #[.slice a1 lk c1, .slice a2 fs.length c2, .slice a3 lb c3] 289 #[.int .i64 id, .string kd, .slice av rc.length cv] 40).heap[bt]? = some (.map es c) := by
      obtain ⟨es, c, h, _⟩ := OwnM.of_block HM.out (HB0.out.block _ hbt0)
      exact ⟨es, c, h⟩
    obtain ⟨es, ce, hmap⟩ := hmap
    have HK : Hid (Kp w wr) := (Kp.of_below HB0.out).trans (Kp.of_but hmap hG)
    have g2 : wr.cell? ⟨w.heap.size + 1, 0, none⟩ = some (.int .i64 id) := (Kp.of_but hmap hG).2 _ _ HC.out.1
    have g3 : wr.cell? ⟨w.heap.size + 1, 2, none⟩ = some (.slice av rc.length cv) := (Kp.of_but hmap hG).2 _ _ HC.out.2
    have hws : w.heap.size + 2 ≤ wr.heap.size := by have := hG.size; rw [box2_size] at this; exact this
    clear hO hM hG hmap
    by_cases hlt : k < fs.length
    · obtain ⟨f, hf⟩ : ∃ f, fs[k]? = some f := ⟨fs[k], by simp [hlt]⟩
      obtain ⟨b, off, c, hv, hb, e0, e1, e2, e3⟩ := HF.out.at hf
      injection hv with hv1 hv2 hv3
      subst hv1 hv3
      clear hv2
      have d0 := HK.out.2 _ _ e0
      have d1 := HK.out.2 _ _ e1
      have d2 := HK.out.2 _ _ e2
      have d3 := HK.out.2 _ _ e3
      have HT : Hid (((fs.take (k + 1)).foldl (fieldS id rc) ([], T)) = fieldS id rc ((fs.take k).foldl (fieldS id rc) ([], T)) f) := foldl_take _ _ hf
      have HKey : Hid (∃ l, keyOf Tryz.prog 359 (encQ (keyP rc f)) = some l) := key_ok HRc.out.2.2.2 (HFz.out f (List.mem_of_getElem? hf))
      have HL : Hid (((fs.take k).foldl (fieldS id rc) ([], T)).1.length ≤ 8) := by
        have := fieldF_len (fs.take k) id rc T
        simp [fieldF] at this
        show _ ≤ _
        omega
      obtain ⟨nm, t, mu, ky⟩ := f
      simp only at d0 d1 d2 d3
      have hB1 : Below wr.heap.size wr (wr.alloc (.cells #[.string (bs nm), .int .i64 t, .bool mu, .bool ky] 56)) := b_allocKC (Below.refl _ _) (Nat.le_refl _) _
      have g3' : (wr.alloc (.cells #[.string (bs nm), .int .i64 t, .bool mu, .bool ky] 56)).cell? ⟨w.heap.size + 1, 2, none⟩ = some (.slice av rc.length cv) := (hB1.cell (by show w.heap.size + 1 < _; omega)).trans g3
      have cg := rget_ok ((HRc.out.1.kp HK.out).on hB1) HRc.out.2.1 HRc.out.2.2.1 nm
      obtain ⟨vt, vn, vs, hval⟩ : ∃ vt vn vs, valP (getP nm rc) = (vt, vn, vs) := ⟨_, _, _, rfl⟩
      rw [hval] at cg
      simp only at cg
      have HKey : Hid (∃ l, keyOf Tryz.prog 359 (encQ (bs nm, vt, vn, vs)) = some l) := by
        have := HKey.out
        unfold keyP at this
        rw [hval] at this
        exact this
      have hbn : ¬ b = wr.heap.size := by have := HK.out.1; omega
      have hw2 : ¬ w.heap.size + 1 = wr.heap.size := by omega
      clear e0 e1 e2 e3 hf
      cases hn : (getP nm rc).isNone
      · have HG : Hid ((getP nm rc).isNone = false ∧ valP (getP nm rc) = (vt, vn, vs)) := ⟨hn, hval⟩
        rw [hn, if_neg (by decide), errV_0] at cg
        clear hn hval
        go_wp2_with (go_at_call 226; refine cg.mono ?_; rintro e W2 ⟨rfl, hB2⟩; refine Hid.out ?_)
        refine Lib.hid ?_
        have hB12 : Below wr.heap.size wr W2 := on1KC hB1 hB2 (Nat.le_refl _)
        have hs2 : wr.heap.size < W2.heap.size := by have := hB2.size; simp at this; omega
        have HB3 : Hid (Below wr.heap.size wr ((W2.alloc (.cells #[.int .i64 vt, .int .i64 vn, .string vs] 42)).alloc (.cells #[.string (bs nm), .int .i64 vt, .int .i64 vn, .string vs] 359))) := b_allocKC (b_allocKC hB12 (Nat.le_refl _) _) (Nat.le_refl _) _
        have hBx : Below (wr.alloc (.cells #[.string (bs nm), .int .i64 t, .bool mu, .bool ky] 56)).heap.size (wr.alloc (.cells #[.string (bs nm), .int .i64 t, .bool mu, .bool ky] 56)) (W2.alloc (.cells #[.int .i64 vt, .int .i64 vn, .string vs] 42)) := b_allocKC hB2 (Nat.le_refl _) _
        have hBy : Below (wr.alloc (.cells #[.string (bs nm), .int .i64 t, .bool mu, .bool ky] 56)).heap.size (wr.alloc (.cells #[.string (bs nm), .int .i64 t, .bool mu, .bool ky] 56)) ((W2.alloc (.cells #[.int .i64 vt, .int .i64 vn, .string vs] 42)).alloc (.cells #[.string (bs nm), .int .i64 vt, .int .i64 vn, .string vs] 359)) := b_allocKC hBx (Nat.le_refl _) _
        have x0 : (W2.alloc (.cells #[.int .i64 vt, .int .i64 vn, .string vs] 42)).cell? ⟨wr.heap.size, 0, none⟩ = some (.string (bs nm)) := (hBx.cell (by simp)).trans (two_new _ _ _ rfl)
        have y0 : ((W2.alloc (.cells #[.int .i64 vt, .int .i64 vn, .string vs] 42)).alloc (.cells #[.string (bs nm), .int .i64 vt, .int .i64 vn, .string vs] 359)).cell? ⟨wr.heap.size, 0, none⟩ = some (.string (bs nm)) := (hBy.cell (by simp)).trans (two_new _ _ _ rfl)
        have y1 : ((W2.alloc (.cells #[.int .i64 vt, .int .i64 vn, .string vs] 42)).alloc (.cells #[.string (bs nm), .int .i64 vt, .int .i64 vn, .string vs] 359)).cell? ⟨wr.heap.size, 1, none⟩ = some (.int .i64 t) := (hBy.cell (by simp)).trans (two_new _ _ _ rfl)
        have y2 : ((W2.alloc (.cells #[.int .i64 vt, .int .i64 vn, .string vs] 42)).alloc (.cells #[.string (bs nm), .int .i64 vt, .int .i64 vn, .string vs] 359)).cell? ⟨wr.heap.size, 2, none⟩ = some (.bool mu) := (hBy.cell (by simp)).trans (two_new _ _ _ rfl)
        have y3 : ((W2.alloc (.cells #[.int .i64 vt, .int .i64 vn, .string vs] 42)).alloc (.cells #[.string (bs nm), .int .i64 vt, .int .i64 vn, .string vs] 359)).cell? ⟨wr.heap.size, 3, none⟩ = some (.bool ky) := (hBy.cell (by simp)).trans (two_new _ _ _ rfl)
        have z0 : ((W2.alloc (.cells #[.int .i64 vt, .int .i64 vn, .string vs] 42)).alloc (.cells #[.string (bs nm), .int .i64 vt, .int .i64 vn, .string vs] 359)).cell? ⟨w.heap.size + 1, 0, none⟩ = some (.int .i64 id) := (HB3.out.cell (by show w.heap.size + 1 < _; omega)).trans g2
        have v0 : ((W2.alloc (.cells #[.int .i64 vt, .int .i64 vn, .string vs] 42)).alloc (.cells #[.string (bs nm), .int .i64 vt, .int .i64 vn, .string vs] 359)).cell? ⟨W2.heap.size, 0, none⟩ = some (.int .i64 vt) := ((b_allocKC (Below.refl (W2.alloc (.cells #[.int .i64 vt, .int .i64 vn, .string vs] 42)).heap.size _) (Nat.le_refl _) _).cell (by simp)).trans (two_new _ _ _ rfl)
        have HM3 : Hid (OwnM ((W2.alloc (.cells #[.int .i64 vt, .int .i64 vn, .string vs] 42)).alloc (.cells #[.string (bs nm), .int .i64 vt, .int .i64 vn, .string vs] 359)) Tryz.prog 359 encQ bt (fun x => (((fs.take k).foldl (fieldS id rc) ([], T)).2 x).map (.int .i64))) := OwnM.of_block HR.out.2.1 (HB3.out.block _ (OwnM.lt HR.out.2.1))
        obtain ⟨kl, hkl⟩ := HKey.out
        have hlook := look_in HM3.out keyedK encQ_inj Tryz.underlying291 (zero3 _) hkl
        obtain ⟨z, hzz⟩ : ∃ z, z = (((fs.take k).foldl (fieldS id rc) ([], T)).2 (bs nm, vt, vn, vs)).getD 0 := ⟨_, rfl⟩
        rw [← hzz] at hlook
        have HZ : Hid ((((fs.take k).foldl (fieldS id rc) ([], T)).2 (bs nm, vt, vn, vs)).getD 0 = z) := hzz.symm
        have hput0 := OwnM.put HM3.out keyedK encQ_inj Tryz.underlying291 hkl (.int .i64 id)
        have HPut : Hid (∃ w', (Instr.mapUpdate 291 (.map (some bt)) (.agg #[.string (bs nm), .int .i64 vt, .int .i64 vn, .string vs]) (.int .i64 id)).run Tryz.prog ((W2.alloc (.cells #[.int .i64 vt, .int .i64 vn, .string vs] 42)).alloc (.cells #[.string (bs nm), .int .i64 vt, .int .i64 vn, .string vs] 359)) = .ok () w' ∧ OwnM w' Tryz.prog 359 encQ bt (upd (fun x => (((fs.take k).foldl (fieldS id rc) ([], T)).2 x).map (.int .i64)) (bs nm, vt, vn, vs) (.int .i64 id)) ∧ World.grownBy ((W2.alloc (.cells #[.int .i64 vt, .int .i64 vn, .string vs] 42)).alloc (.cells #[.string (bs nm), .int .i64 vt, .int .i64 vn, .string vs] 359)) w' (some bt)) := hput0
        have HX : Hid (OwnX ((W2.alloc (.cells #[.int .i64 vt, .int .i64 vn, .string vs] 42)).alloc (.cells #[.string (bs nm), .int .i64 vt, .int .i64 vn, .string vs] 359)) (w.heap.size + 2) u6 ((fs.take k).foldl (fieldS id rc) ([], T)).1 ∧ ((fs.take k).foldl (fieldS id rc) ([], T)).1.length + 1 ≤ maxLen ∧ (((fs.take k).foldl (fieldS id rc) ([], T)).1.length + 1) * 32 ≤ 140737488355328 ∧ w.heap.size + 2 ≤ W2.heap.size) := ⟨own_below HR.out.1 HB3.out, by have := HL.out; unfold maxLen; omega, by have := HL.out; omega, by omega⟩
        simp only [encQ] at hlook
        clear cg hB2 hB12 hBx hBy hput0 hkl hzz hB1
        cases mu
        · cases ky
          · -- no key
            have HSt : Hid (((fs.take (k + 1)).foldl (fieldS id rc) ([], T)) = ((fs.take k).foldl (fieldS id rc) ([], T))) := by
              show _ = _
              rw [HT.out]; exact fieldS_none (by unfold noF; simp only; rw [HG.out.1]; rfl) rfl
            have HN : Hid (FfR w (box2 w #[.slice a1 lk c1, .slice (some ⟨b, off, none⟩) fs.length c2, .slice a3 lb c3] 289 #[.int .i64 id, .string kd, .slice av rc.length cv] 40) bt fs id rc T u6 (.int .i64 ((k : Int) + 1)) ((W2.alloc (.cells #[.int .i64 vt, .int .i64 vn, .string vs] 42)).alloc (.cells #[.string (bs nm), .int .i64 vt, .int .i64 vn, .string vs] 359))) := fr_same hlt HR.out.1 HR.out.2.1 HR.out.2.2 HB3.out hws HSt.out
            go_wp2
            go_roundw
            case rel => exact HN.out
            case measure => simp [intOf]; omega
          · by_cases hq : (vt == t) = true
            · by_cases hy : (z != 0) = true
              · -- the same
                have HSt : Hid (((fs.take (k + 1)).foldl (fieldS id rc) ([], T)) = (((fs.take k).foldl (fieldS id rc) ([], T)).1 ++ [⟨4, id, bs nm⟩], ((fs.take k).foldl (fieldS id rc) ([], T)).2)) := by
                  show _ = _
                  rw [HT.out]; exact fieldS_same (by unfold noF; simp only; rw [HG.out.1]; rfl) (by unfold sameF keyP; simp only; rw [HG.out.2, HZ.out, hy]; simp only; rw [hq]; rfl)
                go_wp2_with (at_builtin; refine wpList_append_own _ rfl (.tmp 65) (.tmp 71) 188 rfl (w.heap.size + 2) 300 i0 _ 3 32 Tryz.underlying188 hi0 hz0 hz1 hz2 rfl (by decide) u6 ((fs.take k).foldl (fieldS id rc) ([], T)).1.length (cellsX ((fs.take k).foldl (fieldS id rc) ([], T)).1) rfl (HX.out.1.alloc _) ⟨W2.heap.size + 1 + 1, 0, none⟩ 1 1 (Ft.mk 4 id (bs nm)).cells rfl rfl (new_at2 W2 _ _ _) (ft_one _) HX.out.2.1 HX.out.2.2.1 (Nat.le_trans HX.out.2.2.2 (size3 _ _ _ _)) ?_; intro v1 w1 hown1 hgrow1 _)
                have HN : Hid (FfR w (box2 w #[.slice a1 lk c1, .slice (some ⟨b, off, none⟩) fs.length c2, .slice a3 lb c3] 289 #[.int .i64 id, .string kd, .slice av rc.length cv] 40) bt fs id rc T v1 (.int .i64 ((k : Int) + 1)) w1) := fr_fault hlt HR.out.1 HR.out.2.1 HR.out.2.2 HB3.out hws HSt.out hown1 hgrow1 (hW := box2_size _ _ _ _ _)
                clear hown1 hgrow1
                go_roundw
                case rel => exact HN.out
                case measure => simp [intOf]; omega
              · have hy' : (z != 0) = false := by simpa using hy
                have HSt : Hid (((fs.take (k + 1)).foldl (fieldS id rc) ([], T)) = (((fs.take k).foldl (fieldS id rc) ([], T)).1, upd ((fs.take k).foldl (fieldS id rc) ([], T)).2 (bs nm, vt, vn, vs) id)) := by
                  show _ = _
                  rw [HT.out]; exact (fieldS_put (by unfold noF; simp only; rw [HG.out.1]; rfl) (by unfold sameF keyP; simp only; rw [HG.out.2, HZ.out, hy']; simp only; rw [hq]; rfl) rfl).trans (by unfold keyP; simp only; rw [HG.out.2])
                clear hy
                obtain ⟨w4, hrun, hput, hgr⟩ := HPut.out
                have HN : Hid (FfR w (box2 w #[.slice a1 lk c1, .slice (some ⟨b, off, none⟩) fs.length c2, .slice a3 lb c3] 289 #[.int .i64 id, .string kd, .slice av rc.length cv] 40) bt fs id rc T u6 (.int .i64 ((k : Int) + 1)) w4) := fr_put hlt HR.out.1 HR.out.2.1 HR.out.2.2 HB3.out hws HSt.out hput hgr
                clear hput hgr
                go_wp2
                go_roundw
                case rel => exact HN.out
                case measure => simp [intOf]; omega
            · have hq' : (vt == t) = false := by simpa using hq
              have HSt : Hid (((fs.take (k + 1)).foldl (fieldS id rc) ([], T)) = (((fs.take k).foldl (fieldS id rc) ([], T)).1, upd ((fs.take k).foldl (fieldS id rc) ([], T)).2 (bs nm, vt, vn, vs) id)) := by
                show _ = _
                rw [HT.out]; exact (fieldS_put (by unfold noF; simp only; rw [HG.out.1]; rfl) (by unfold sameF keyP; simp only; rw [HG.out.2]; simp only; rw [hq']; rfl) rfl).trans (by unfold keyP; simp only; rw [HG.out.2])
              clear hq
              obtain ⟨w4, hrun, hput, hgr⟩ := HPut.out
              have HN : Hid (FfR w (box2 w #[.slice a1 lk c1, .slice (some ⟨b, off, none⟩) fs.length c2, .slice a3 lb c3] 289 #[.int .i64 id, .string kd, .slice av rc.length cv] 40) bt fs id rc T u6 (.int .i64 ((k : Int) + 1)) w4) := fr_put hlt HR.out.1 HR.out.2.1 HR.out.2.2 HB3.out hws HSt.out hput hgr
              clear hput hgr
              go_wp2
              go_roundw
              case rel => exact HN.out
              case measure => simp [intOf]; omega
        · cases ky
          · -- no key
            have HSt : Hid (((fs.take (k + 1)).foldl (fieldS id rc) ([], T)) = ((fs.take k).foldl (fieldS id rc) ([], T))) := by
              show _ = _
              rw [HT.out]; exact fieldS_none (by unfold noF; simp only; rw [HG.out.1]; rfl) rfl
            have HN : Hid (FfR w (box2 w #[.slice a1 lk c1, .slice (some ⟨b, off, none⟩) fs.length c2, .slice a3 lb c3] 289 #[.int .i64 id, .string kd, .slice av rc.length cv] 40) bt fs id rc T u6 (.int .i64 ((k : Int) + 1)) ((W2.alloc (.cells #[.int .i64 vt, .int .i64 vn, .string vs] 42)).alloc (.cells #[.string (bs nm), .int .i64 vt, .int .i64 vn, .string vs] 359))) := fr_same hlt HR.out.1 HR.out.2.1 HR.out.2.2 HB3.out hws HSt.out
            go_wp2
            go_roundw
            case rel => exact HN.out
            case measure => simp [intOf]; omega
          · by_cases hq : (vt == t) = true
            · by_cases hy : (z != 0) = true
              · -- the same
                have HSt : Hid (((fs.take (k + 1)).foldl (fieldS id rc) ([], T)) = (((fs.take k).foldl (fieldS id rc) ([], T)).1 ++ [⟨4, id, bs nm⟩], ((fs.take k).foldl (fieldS id rc) ([], T)).2)) := by
                  show _ = _
                  rw [HT.out]; exact fieldS_same (by unfold noF; simp only; rw [HG.out.1]; rfl) (by unfold sameF keyP; simp only; rw [HG.out.2, HZ.out, hy]; simp only; rw [hq]; rfl)
                go_wp2_with (at_builtin; refine wpList_append_own _ rfl (.tmp 65) (.tmp 71) 188 rfl (w.heap.size + 2) 300 i0 _ 3 32 Tryz.underlying188 hi0 hz0 hz1 hz2 rfl (by decide) u6 ((fs.take k).foldl (fieldS id rc) ([], T)).1.length (cellsX ((fs.take k).foldl (fieldS id rc) ([], T)).1) rfl (HX.out.1.alloc _) ⟨W2.heap.size + 1 + 1, 0, none⟩ 1 1 (Ft.mk 4 id (bs nm)).cells rfl rfl (new_at2 W2 _ _ _) (ft_one _) HX.out.2.1 HX.out.2.2.1 (Nat.le_trans HX.out.2.2.2 (size3 _ _ _ _)) ?_; intro v1 w1 hown1 hgrow1 _)
                have HN : Hid (FfR w (box2 w #[.slice a1 lk c1, .slice (some ⟨b, off, none⟩) fs.length c2, .slice a3 lb c3] 289 #[.int .i64 id, .string kd, .slice av rc.length cv] 40) bt fs id rc T v1 (.int .i64 ((k : Int) + 1)) w1) := fr_fault hlt HR.out.1 HR.out.2.1 HR.out.2.2 HB3.out hws HSt.out hown1 hgrow1 (hW := box2_size _ _ _ _ _)
                clear hown1 hgrow1
                go_roundw
                case rel => exact HN.out
                case measure => simp [intOf]; omega
              · have hy' : (z != 0) = false := by simpa using hy
                have HSt : Hid (((fs.take (k + 1)).foldl (fieldS id rc) ([], T)) = (((fs.take k).foldl (fieldS id rc) ([], T)).1, upd ((fs.take k).foldl (fieldS id rc) ([], T)).2 (bs nm, vt, vn, vs) id)) := by
                  show _ = _
                  rw [HT.out]; exact (fieldS_put (by unfold noF; simp only; rw [HG.out.1]; rfl) (by unfold sameF keyP; simp only; rw [HG.out.2, HZ.out, hy']; simp only; rw [hq]; rfl) rfl).trans (by unfold keyP; simp only; rw [HG.out.2])
                clear hy
                obtain ⟨w4, hrun, hput, hgr⟩ := HPut.out
                have HN : Hid (FfR w (box2 w #[.slice a1 lk c1, .slice (some ⟨b, off, none⟩) fs.length c2, .slice a3 lb c3] 289 #[.int .i64 id, .string kd, .slice av rc.length cv] 40) bt fs id rc T u6 (.int .i64 ((k : Int) + 1)) w4) := fr_put hlt HR.out.1 HR.out.2.1 HR.out.2.2 HB3.out hws HSt.out hput hgr
                clear hput hgr
                go_wp2
                go_roundw
                case rel => exact HN.out
                case measure => simp [intOf]; omega
            · have hq' : (vt == t) = false := by simpa using hq
              have HSt : Hid (((fs.take (k + 1)).foldl (fieldS id rc) ([], T)) = (((fs.take k).foldl (fieldS id rc) ([], T)).1, upd ((fs.take k).foldl (fieldS id rc) ([], T)).2 (bs nm, vt, vn, vs) id)) := by
                show _ = _
                rw [HT.out]; exact (fieldS_put (by unfold noF; simp only; rw [HG.out.1]; rfl) (by unfold sameF keyP; simp only; rw [HG.out.2]; simp only; rw [hq']; rfl) rfl).trans (by unfold keyP; simp only; rw [HG.out.2])
              clear hq
              obtain ⟨w4, hrun, hput, hgr⟩ := HPut.out
              have HN : Hid (FfR w (box2 w #[.slice a1 lk c1, .slice (some ⟨b, off, none⟩) fs.length c2, .slice a3 lb c3] 289 #[.int .i64 id, .string kd, .slice av rc.length cv] 40) bt fs id rc T u6 (.int .i64 ((k : Int) + 1)) w4) := fr_put hlt HR.out.1 HR.out.2.1 HR.out.2.2 HB3.out hws HSt.out hput hgr
              clear hput hgr
              go_wp2
              go_roundw
              case rel => exact HN.out
              case measure => simp [intOf]; omega
      · have HG : Hid ((getP nm rc).isNone = true ∧ valP (getP nm rc) = (vt, vn, vs)) := ⟨hn, hval⟩
        rw [hn, if_pos rfl, errV_5K] at cg
        clear hn hval
        go_wp2_with (go_at_call 226; refine cg.mono ?_; rintro e W2 ⟨rfl, hB2⟩; refine Hid.out ?_)
        refine Lib.hid ?_
        have hB12 : Below wr.heap.size wr W2 := on1KC hB1 hB2 (Nat.le_refl _)
        have hs2 : wr.heap.size < W2.heap.size := by have := hB2.size; simp at this; omega
        have HB3 : Hid (Below wr.heap.size wr ((W2.alloc (.cells #[.int .i64 vt, .int .i64 vn, .string vs] 42)).alloc (.cells #[.string (bs nm), .int .i64 vt, .int .i64 vn, .string vs] 359))) := b_allocKC (b_allocKC hB12 (Nat.le_refl _) _) (Nat.le_refl _) _
        have hBx : Below (wr.alloc (.cells #[.string (bs nm), .int .i64 t, .bool mu, .bool ky] 56)).heap.size (wr.alloc (.cells #[.string (bs nm), .int .i64 t, .bool mu, .bool ky] 56)) (W2.alloc (.cells #[.int .i64 vt, .int .i64 vn, .string vs] 42)) := b_allocKC hB2 (Nat.le_refl _) _
        have hBy : Below (wr.alloc (.cells #[.string (bs nm), .int .i64 t, .bool mu, .bool ky] 56)).heap.size (wr.alloc (.cells #[.string (bs nm), .int .i64 t, .bool mu, .bool ky] 56)) ((W2.alloc (.cells #[.int .i64 vt, .int .i64 vn, .string vs] 42)).alloc (.cells #[.string (bs nm), .int .i64 vt, .int .i64 vn, .string vs] 359)) := b_allocKC hBx (Nat.le_refl _) _
        have x0 : (W2.alloc (.cells #[.int .i64 vt, .int .i64 vn, .string vs] 42)).cell? ⟨wr.heap.size, 0, none⟩ = some (.string (bs nm)) := (hBx.cell (by simp)).trans (two_new _ _ _ rfl)
        have y0 : ((W2.alloc (.cells #[.int .i64 vt, .int .i64 vn, .string vs] 42)).alloc (.cells #[.string (bs nm), .int .i64 vt, .int .i64 vn, .string vs] 359)).cell? ⟨wr.heap.size, 0, none⟩ = some (.string (bs nm)) := (hBy.cell (by simp)).trans (two_new _ _ _ rfl)
        have y1 : ((W2.alloc (.cells #[.int .i64 vt, .int .i64 vn, .string vs] 42)).alloc (.cells #[.string (bs nm), .int .i64 vt, .int .i64 vn, .string vs] 359)).cell? ⟨wr.heap.size, 1, none⟩ = some (.int .i64 t) := (hBy.cell (by simp)).trans (two_new _ _ _ rfl)
        have y2 : ((W2.alloc (.cells #[.int .i64 vt, .int .i64 vn, .string vs] 42)).alloc (.cells #[.string (bs nm), .int .i64 vt, .int .i64 vn, .string vs] 359)).cell? ⟨wr.heap.size, 2, none⟩ = some (.bool mu) := (hBy.cell (by simp)).trans (two_new _ _ _ rfl)
        have y3 : ((W2.alloc (.cells #[.int .i64 vt, .int .i64 vn, .string vs] 42)).alloc (.cells #[.string (bs nm), .int .i64 vt, .int .i64 vn, .string vs] 359)).cell? ⟨wr.heap.size, 3, none⟩ = some (.bool ky) := (hBy.cell (by simp)).trans (two_new _ _ _ rfl)
        have z0 : ((W2.alloc (.cells #[.int .i64 vt, .int .i64 vn, .string vs] 42)).alloc (.cells #[.string (bs nm), .int .i64 vt, .int .i64 vn, .string vs] 359)).cell? ⟨w.heap.size + 1, 0, none⟩ = some (.int .i64 id) := (HB3.out.cell (by show w.heap.size + 1 < _; omega)).trans g2
        have v0 : ((W2.alloc (.cells #[.int .i64 vt, .int .i64 vn, .string vs] 42)).alloc (.cells #[.string (bs nm), .int .i64 vt, .int .i64 vn, .string vs] 359)).cell? ⟨W2.heap.size, 0, none⟩ = some (.int .i64 vt) := ((b_allocKC (Below.refl (W2.alloc (.cells #[.int .i64 vt, .int .i64 vn, .string vs] 42)).heap.size _) (Nat.le_refl _) _).cell (by simp)).trans (two_new _ _ _ rfl)
        have HM3 : Hid (OwnM ((W2.alloc (.cells #[.int .i64 vt, .int .i64 vn, .string vs] 42)).alloc (.cells #[.string (bs nm), .int .i64 vt, .int .i64 vn, .string vs] 359)) Tryz.prog 359 encQ bt (fun x => (((fs.take k).foldl (fieldS id rc) ([], T)).2 x).map (.int .i64))) := OwnM.of_block HR.out.2.1 (HB3.out.block _ (OwnM.lt HR.out.2.1))
        obtain ⟨kl, hkl⟩ := HKey.out
        have hlook := look_in HM3.out keyedK encQ_inj Tryz.underlying291 (zero3 _) hkl
        obtain ⟨z, hzz⟩ : ∃ z, z = (((fs.take k).foldl (fieldS id rc) ([], T)).2 (bs nm, vt, vn, vs)).getD 0 := ⟨_, rfl⟩
        rw [← hzz] at hlook
        have HZ : Hid ((((fs.take k).foldl (fieldS id rc) ([], T)).2 (bs nm, vt, vn, vs)).getD 0 = z) := hzz.symm
        have hput0 := OwnM.put HM3.out keyedK encQ_inj Tryz.underlying291 hkl (.int .i64 id)
        have HPut : Hid (∃ w', (Instr.mapUpdate 291 (.map (some bt)) (.agg #[.string (bs nm), .int .i64 vt, .int .i64 vn, .string vs]) (.int .i64 id)).run Tryz.prog ((W2.alloc (.cells #[.int .i64 vt, .int .i64 vn, .string vs] 42)).alloc (.cells #[.string (bs nm), .int .i64 vt, .int .i64 vn, .string vs] 359)) = .ok () w' ∧ OwnM w' Tryz.prog 359 encQ bt (upd (fun x => (((fs.take k).foldl (fieldS id rc) ([], T)).2 x).map (.int .i64)) (bs nm, vt, vn, vs) (.int .i64 id)) ∧ World.grownBy ((W2.alloc (.cells #[.int .i64 vt, .int .i64 vn, .string vs] 42)).alloc (.cells #[.string (bs nm), .int .i64 vt, .int .i64 vn, .string vs] 359)) w' (some bt)) := hput0
        have HX : Hid (OwnX ((W2.alloc (.cells #[.int .i64 vt, .int .i64 vn, .string vs] 42)).alloc (.cells #[.string (bs nm), .int .i64 vt, .int .i64 vn, .string vs] 359)) (w.heap.size + 2) u6 ((fs.take k).foldl (fieldS id rc) ([], T)).1 ∧ ((fs.take k).foldl (fieldS id rc) ([], T)).1.length + 1 ≤ maxLen ∧ (((fs.take k).foldl (fieldS id rc) ([], T)).1.length + 1) * 32 ≤ 140737488355328 ∧ w.heap.size + 2 ≤ W2.heap.size) := ⟨own_below HR.out.1 HB3.out, by have := HL.out; unfold maxLen; omega, by have := HL.out; omega, by omega⟩
        simp only [encQ] at hlook
        clear cg hB2 hB12 hBx hBy hput0 hkl hzz hB1
        cases mu
        · cases ky
          · -- no key
            have HSt : Hid (((fs.take (k + 1)).foldl (fieldS id rc) ([], T)) = ((fs.take k).foldl (fieldS id rc) ([], T))) := by
              show _ = _
              rw [HT.out]; exact fieldS_none (by unfold noF; simp only; rw [HG.out.1]; rfl) rfl
            have HN : Hid (FfR w (box2 w #[.slice a1 lk c1, .slice (some ⟨b, off, none⟩) fs.length c2, .slice a3 lb c3] 289 #[.int .i64 id, .string kd, .slice av rc.length cv] 40) bt fs id rc T u6 (.int .i64 ((k : Int) + 1)) ((W2.alloc (.cells #[.int .i64 vt, .int .i64 vn, .string vs] 42)).alloc (.cells #[.string (bs nm), .int .i64 vt, .int .i64 vn, .string vs] 359))) := fr_same hlt HR.out.1 HR.out.2.1 HR.out.2.2 HB3.out hws HSt.out
            go_wp2
            go_roundw
            case rel => exact HN.out
            case measure => simp [intOf]; omega
          · by_cases hq : (vt == t) = true
            · by_cases hy : (z != 0) = true
              · -- the same
                have HSt : Hid (((fs.take (k + 1)).foldl (fieldS id rc) ([], T)) = (((fs.take k).foldl (fieldS id rc) ([], T)).1 ++ [⟨4, id, bs nm⟩], ((fs.take k).foldl (fieldS id rc) ([], T)).2)) := by
                  show _ = _
                  rw [HT.out]; exact fieldS_same (by unfold noF; simp only; rw [HG.out.1]; rfl) (by unfold sameF keyP; simp only; rw [HG.out.2, HZ.out, hy]; simp only; rw [hq]; rfl)
                go_wp2_with (at_builtin; refine wpList_append_own _ rfl (.tmp 65) (.tmp 71) 188 rfl (w.heap.size + 2) 300 i0 _ 3 32 Tryz.underlying188 hi0 hz0 hz1 hz2 rfl (by decide) u6 ((fs.take k).foldl (fieldS id rc) ([], T)).1.length (cellsX ((fs.take k).foldl (fieldS id rc) ([], T)).1) rfl (HX.out.1.alloc _) ⟨W2.heap.size + 1 + 1, 0, none⟩ 1 1 (Ft.mk 4 id (bs nm)).cells rfl rfl (new_at2 W2 _ _ _) (ft_one _) HX.out.2.1 HX.out.2.2.1 (Nat.le_trans HX.out.2.2.2 (size3 _ _ _ _)) ?_; intro v1 w1 hown1 hgrow1 _)
                have HN : Hid (FfR w (box2 w #[.slice a1 lk c1, .slice (some ⟨b, off, none⟩) fs.length c2, .slice a3 lb c3] 289 #[.int .i64 id, .string kd, .slice av rc.length cv] 40) bt fs id rc T v1 (.int .i64 ((k : Int) + 1)) w1) := fr_fault hlt HR.out.1 HR.out.2.1 HR.out.2.2 HB3.out hws HSt.out hown1 hgrow1 (hW := box2_size _ _ _ _ _)
                clear hown1 hgrow1
                go_roundw
                case rel => exact HN.out
                case measure => simp [intOf]; omega
              · have hy' : (z != 0) = false := by simpa using hy
                have HSt : Hid (((fs.take (k + 1)).foldl (fieldS id rc) ([], T)) = (((fs.take k).foldl (fieldS id rc) ([], T)).1, upd ((fs.take k).foldl (fieldS id rc) ([], T)).2 (bs nm, vt, vn, vs) id)) := by
                  show _ = _
                  rw [HT.out]; exact (fieldS_put (by unfold noF; simp only; rw [HG.out.1]; rfl) (by unfold sameF keyP; simp only; rw [HG.out.2, HZ.out, hy']; simp only; rw [hq]; rfl) rfl).trans (by unfold keyP; simp only; rw [HG.out.2])
                clear hy
                obtain ⟨w4, hrun, hput, hgr⟩ := HPut.out
                have HN : Hid (FfR w (box2 w #[.slice a1 lk c1, .slice (some ⟨b, off, none⟩) fs.length c2, .slice a3 lb c3] 289 #[.int .i64 id, .string kd, .slice av rc.length cv] 40) bt fs id rc T u6 (.int .i64 ((k : Int) + 1)) w4) := fr_put hlt HR.out.1 HR.out.2.1 HR.out.2.2 HB3.out hws HSt.out hput hgr
                clear hput hgr
                go_wp2
                go_roundw
                case rel => exact HN.out
                case measure => simp [intOf]; omega
            · have hq' : (vt == t) = false := by simpa using hq
              have HSt : Hid (((fs.take (k + 1)).foldl (fieldS id rc) ([], T)) = (((fs.take k).foldl (fieldS id rc) ([], T)).1, upd ((fs.take k).foldl (fieldS id rc) ([], T)).2 (bs nm, vt, vn, vs) id)) := by
                show _ = _
                rw [HT.out]; exact (fieldS_put (by unfold noF; simp only; rw [HG.out.1]; rfl) (by unfold sameF keyP; simp only; rw [HG.out.2]; simp only; rw [hq']; rfl) rfl).trans (by unfold keyP; simp only; rw [HG.out.2])
              clear hq
              obtain ⟨w4, hrun, hput, hgr⟩ := HPut.out
              have HN : Hid (FfR w (box2 w #[.slice a1 lk c1, .slice (some ⟨b, off, none⟩) fs.length c2, .slice a3 lb c3] 289 #[.int .i64 id, .string kd, .slice av rc.length cv] 40) bt fs id rc T u6 (.int .i64 ((k : Int) + 1)) w4) := fr_put hlt HR.out.1 HR.out.2.1 HR.out.2.2 HB3.out hws HSt.out hput hgr
              clear hput hgr
              go_wp2
              go_roundw
              case rel => exact HN.out
              case measure => simp [intOf]; omega
        · -- must, and not there
          have HSt : Hid (((fs.take (k + 1)).foldl (fieldS id rc) ([], T)) = (((fs.take k).foldl (fieldS id rc) ([], T)).1 ++ [⟨3, id, bs nm⟩], ((fs.take k).foldl (fieldS id rc) ([], T)).2)) := by
            show _ = _
            rw [HT.out]; exact fieldS_no (by unfold noF; simp only; rw [HG.out.1]; rfl)
          go_wp2_with (at_builtin; refine wpList_append_own _ rfl (.tmp 41) (.tmp 47) 188 rfl (w.heap.size + 2) 300 i0 _ 3 32 Tryz.underlying188 hi0 hz0 hz1 hz2 rfl (by decide) u6 ((fs.take k).foldl (fieldS id rc) ([], T)).1.length (cellsX ((fs.take k).foldl (fieldS id rc) ([], T)).1) rfl (HX.out.1.alloc _) ⟨W2.heap.size + 1 + 1, 0, none⟩ 1 1 (Ft.mk 3 id (bs nm)).cells rfl rfl (new_at2 W2 _ _ _) (ft_one _) HX.out.2.1 HX.out.2.2.1 (Nat.le_trans HX.out.2.2.2 (size3 _ _ _ _)) ?_; intro v1 w1 hown1 hgrow1 _)
          have HN : Hid (FfR w (box2 w #[.slice a1 lk c1, .slice (some ⟨b, off, none⟩) fs.length c2, .slice a3 lb c3] 289 #[.int .i64 id, .string kd, .slice av rc.length cv] 40) bt fs id rc T v1 (.int .i64 ((k : Int) + 1)) w1) := fr_fault hlt HR.out.1 HR.out.2.1 HR.out.2.2 HB3.out hws HSt.out hown1 hgrow1 (hW := box2_size _ _ _ _ _)
          clear hown1 hgrow1
          go_roundw
          case rel => exact HN.out
          case measure => simp [intOf]; omega
    · obtain rfl : k = fs.length := by omega
      have HE : Hid (FfPost w bt (fieldF fs id rc T).1 (fieldF fs id rc T).2 (.returned u6) wr) := by
        have h := HR.out
        rw [List.take_length] at h
        exact ⟨u6, rfl, own_baseC h.1 (by omega), h.2.1, but_trans (but_of_below HB0.out _) h.2.2⟩
      clear hlt
      go_wp2
      go_ret
      exact HE.out
end Go.Proofs.YtahamkajkkkjdaaGreatDoor
