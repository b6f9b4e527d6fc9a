import Derived.Test.YtahamkajkkkjdaaGreatDoorM34
import Derived.Test.YtahamkajkkkjdaaGreatDoorM32
namespace Go.Proofs.YtahamkajkkkjdaaGreatDoor
open Go.RowKit
set_option linter.unusedVariables false
set_option linter.unusedSimpArgs false
section
variable {u0 : World} {b t : Nat} {ty : TypeId} {L : List Value} {r : List UInt8}
theorem Rs.drewN {W : World} (h : Rs u0 b t ty r L W) (q : Nat) : Rs u0 b t ty r L (W.drewN q) := ⟨h.rd, h.tg, ⟨h.fr.os, h.fr.tape, h.fr.output, h.fr.size, h.fr.block⟩, h.env.on (b_drewK (Below.refl _ _) q)⟩
theorem Rs.refl {W : World} (h : Rs u0 b t ty r L W) {s : Nat} {ty' : TypeId} {M : List Value} (hs : W.heap[s]? = some (.cells M.toArray ty' (0, 0))) : Rs W b s ty' r M W := ⟨h.rd, hs, Bx.refl _ _ _, h.env⟩
theorem rs_row {W W' : World} {s : Nat} {ty' : TypeId} {r' : List UInt8} {M : List Value} (h : Rs u0 b t ty r L W) (hT : Tg b t ty) (k : Rs W b s ty' r' M W') (hs : u0.heap.size ≤ s) (hst : s ≠ t) : Rs u0 b t ty r' L W' := by
  have hne := h.rd.ne h.tg hT.h121
  have blk : W'.heap[t]? = W.heap[t]? := k.fr.block t (Array.getElem?_eq_some_iff.1 h.tg).1 (by simp; exact ⟨hne, Ne.symm hst⟩)
  refine ⟨k.rd, blk.trans h.tg, ?_, k.env⟩
  refine ⟨k.fr.os.trans h.fr.os, k.fr.tape.trans h.fr.tape, k.fr.output.trans h.fr.output, Nat.le_trans h.fr.size k.fr.size, fun x hx hn => ?_⟩
  rw [k.fr.block x (Nat.lt_of_lt_of_le hx h.fr.size) (by simp only [List.mem_cons, List.not_mem_nil, or_false] at hn ⊢; omega)]
  exact h.fr.block x hx hn
theorem rs_make {W : World} (h : Rs u0 b t ty r L W) (hT : Tg b t ty) (q o n : Nat) (Z : Array Value) (te : TypeId) :
    Rs u0 b t ty r (L.set o (.slice (some ⟨W.heap.size, 0, none⟩) n n)) (((W.drewN q).alloc (.cells Z te)).setCell ⟨t, o, none⟩ (.slice (some ⟨W.heap.size, 0, none⟩) n n)) ∧ (((W.drewN q).alloc (.cells Z te)).setCell ⟨t, o, none⟩ (.slice (some ⟨W.heap.size, 0, none⟩) n n)).heap[W.heap.size]? = some (.cells Z te (0, 0)) ∧ W.heap.size ≠ t ∧ u0.heap.size ≤ W.heap.size := by
  have hlt := (Array.getElem?_eq_some_iff.1 h.tg).1
  have h1 := h.drewN q
  have hB := bA (Below.refl (W.drewN q).heap.size (W.drewN q)) (Nat.le_refl _) (.cells Z te)
  have h2 : Rs u0 b t ty r L ((W.drewN q).alloc (.cells Z te)) := ⟨h1.rd.on hB, (hB.block t hlt).trans h1.tg, bx_alloc h1.fr h1.fr.size _, h1.env.on (hB.mono h1.env.sz)⟩
  have hn := heap_alloc_new (W.drewN q) (.cells Z te)
  refine ⟨rs_store h2 hT o _, ?_, by omega, h.fr.size⟩
  exact (heap_setCell_other _ ⟨t, o, none⟩ W.heap.size _ (by show W.heap.size ≠ t; omega)).trans hn
abbrev zP : List Value := [.string ⟨#[]⟩, .int .i64 0, .int .i64 0, .string ⟨#[]⟩]
theorem flatLen {α : Type} {f : α → List Value} {sz : Nat} (h : ∀ x, (f x).length = sz) (M : List α) : (M.flatMap f).length = M.length * sz := flatK_len h M
theorem pr_len' (p : Pr) : p.cells.length = 4 := rfl
theorem encL_drop {α : Type} (f : α → List UInt8) (M : List α) (k : Nat) (x : α) (hx : M[k]? = some x) : (M.drop k).flatMap f = f x ++ (M.drop (k + 1)).flatMap f := by
  obtain ⟨hk, rfl⟩ := List.getElem?_eq_some_iff.1 hx
  rw [List.drop_eq_getElem_cons hk, List.flatMap_cons]
theorem own_all {w : World} {g n sz : Nat} {e : TypeId} {B : Nat} {xs : List Value} (h : w.heap[g]? = some (.cells xs.toArray e (0, 0))) (hl : xs.length = n * sz) (hB : B ≤ g) (hm : n ≤ maxLen) : w.ownsRow B e sz (.slice (some ⟨g, 0, none⟩) n n) n xs :=
  ⟨hl, .inr ⟨g, n, xs.toArray, rfl, hB, h, Nat.le_refl _, hm, by simp [hl], by simp [← hl]⟩⟩
theorem setSame {o : Nat} {v : Value} (h : L[o]? = some v) : L.set o v = L := by
  obtain ⟨hk, rfl⟩ := List.getElem?_eq_some_iff.1 h
  exact List.set_getElem_self hk
def RcP (u0 : World) (b t : Nat) (ty : TypeId) (r : List UInt8) (L : List Value) (o : Nat) (M : List Pr) (W : World) : Prop := ∃ v, Rs u0 b t ty r (L.set o v) W ∧ OwnRc W u0.heap.size v M
theorem r_rec (hu : 7 ≤ u0.heap.size) (hT : Tg b t ty) {o : Nat} {M : List Pr} (hi : ∀ p ∈ M, PrI p) (hL : L[o]? = some (.slice none 0 0)) (hl : (encL encP M ++ r).length ≤ 4294967280) :
    ∀ W, Rs u0 b t ty (encL encP M ++ r) L W → Calls Tryz.prog 124 #[.iface 119 (.pointer (some ⟨b, 0, none⟩)), .pointer (some ⟨t, o, none⟩), .func (.func 84) #[] #[]] W (Ret (RcP u0 b t ty r L o M)) := fun W h => by
  have hn := encL_ge encP encP_pos M
  have e : encL encP M ++ r = encN M.length ++ (M.flatMap encP ++ r) := by unfold encL; simp
  have hMl : M.length ≤ 4294967280 := by rw [List.length_append] at hl; omega
  rw [e] at h hl
  have hl2 : (M.flatMap encP ++ r).length ≤ 4294967280 := by rw [List.length_append] at hl; omega
  have cN := r_len hT hMl h hl
  have hcell : ∀ W', Rs u0 b t ty (M.flatMap encP ++ r) L W' → W'.cell? ⟨t, o, none⟩ = some (.slice none 0 0) := fun W' q => cell_at q.tg (by simpa using hL)
  rcases Nat.eq_zero_or_pos M.length with h0 | h0
  · obtain rfl := List.eq_nil_of_length_eq_zero h0
    have cc : W.cell? ⟨t, o, none⟩ = some (.slice none 0 0) := cell_at h.tg (by simpa using hL)
    have c := lsP_walk fmR (p := ⟨b, 0, none⟩) (g := t) (off := o) (n := 0) (cp := 0) (eb := 0) (eo := 0) (ao := none) (w := W) (Q := fun k => Rs u0 b t ty r L) (by omega) (fun h => by omega) cc cN (fun w' q => ⟨q.2, hcell w' q.1⟩) (fun w' q hq => hq.1.drewN q) (fun k w' q => hcell w' q) (fun k hk => by omega)
    refine c.mono fun e' w' q => ⟨q.1, .slice none 0 0, by rw [setSame hL]; exact q.2, World.ownsRow_nil _ _ _ _⟩
  · have cc : W.cell? ⟨t, o, none⟩ = some (.slice none 0 0) := cell_at h.tg (by simpa using hL)
    have c := lsP_make fmR (p := ⟨b, 0, none⟩) (g := t) (off := o) (n := M.length) (w := W) (Q := fun eb k W' => u0.heap.size ≤ eb ∧ eb ≠ t ∧ Rs u0 b t ty ((M.drop k).flatMap encP ++ r) (L.set o (.slice (some ⟨eb, 0, none⟩) M.length M.length)) W' ∧ W'.heap[eb]? = some (.cells ((M.take k).flatMap Pr.cells ++ (List.replicate (M.length - k) zP).flatten).toArray 44 (0, 0)))
      (by omega) h0 cc cN (fun w' q => ⟨q.2, hcell w' q.1, frz_at q.1.tg⟩) (fun w' q hq => by
        obtain ⟨q1, q2, q3, q4⟩ := rs_make hq.1 hT q o M.length (madeCells (Value.cells (.agg #[.string ⟨#[]⟩, .int .i64 0, .int .i64 0, .string ⟨#[]⟩])) (M.length * 4)) 44
        refine ⟨q4, q3, q1, q2.trans ?_⟩
        have := made_flat zP (by decide) M.length
        congr 2
        apply Array.toList_inj.1
        simp only [List.take_zero, List.flatMap_nil, List.nil_append, Nat.sub_zero]
        exact this) (fun eb k w' q => by
        obtain ⟨_, _, q3, _⟩ := q
        exact cell_at q3.tg (by
          have := (List.getElem?_eq_some_iff.1 hL).1
          simp [this])) (fun eb k hk w' q => by
        obtain ⟨q1, q2, q3, q4⟩ := q
        obtain ⟨x, hx⟩ : ∃ x, M[k]? = some x := ⟨M[k], by simp [hk]⟩
        have hd := encL_drop encP M k x hx
        have hA : ((M.take k).flatMap Pr.cells).length = k * 4 := by rw [flatLen pr_len', List.length_take, Nat.min_eq_left (by omega)]
        have hz : (List.replicate (M.length - k) zP).flatten = zP ++ (List.replicate (M.length - (k + 1)) zP).flatten := by
          rw [show M.length - k = M.length - (k + 1) + 1 by omega, List.replicate_succ, List.flatten_cons]
        rw [hz, ← List.append_assoc] at q4
        rw [hd, List.append_assoc] at q3
        have q5 := q3.refl q4
        have hT2 : Tg b eb 44 := ⟨by decide, by decide, hT.b7, by omega⟩
        have c := r_prop (u0 := w') (r := (M.drop (k + 1)).flatMap encP ++ r) hT2 (o := ((M.take k).flatMap Pr.cells).length + 0) (hi x (List.mem_of_getElem? hx)) (by simp) (by
          have hle : ((M.drop k).flatMap encP).length ≤ (M.flatMap encP).length := by
            conv => rhs; rw [← List.take_append_drop k M, List.flatMap_append]
            simp
          rw [← List.append_assoc, ← hd]
          simp only [List.length_append] at hl2 ⊢
          omega) w' q5
        rw [hA, Nat.add_zero] at c
        refine c.mono fun e' w2 qq => ⟨qq.1, q1, q2, rs_row q3 hT qq.2 q1 q2, ?_⟩
        have hg := qq.2.tg
        rw [← hA, ← Nat.add_zero ((M.take k).flatMap Pr.cells).length, puts_mid _ _ zP _ 0 (by rw [pr_len']; decide)] at hg
        rw [hg]
        congr 3
        rw [List.take_add_one, hx, List.flatMap_append]
        simp [puts, Pr.cells])
    refine c.mono fun e' w' q => ⟨q.1, ?_⟩
    obtain ⟨eb, q1, q2, q3, q4⟩ := q.2
    refine ⟨_, by simpa using q3, ?_⟩
    rw [Nat.sub_self, List.replicate_zero, List.flatten_nil, List.append_nil, List.take_length] at q4
    exact own_all q4 (flatLen pr_len' M) q1 (by unfold maxLen; omega)
theorem get_mid (A m C : List Value) (i : Nat) (hi : i < m.length) : (A ++ m ++ C)[A.length + i]? = m[i]? := by
  rw [List.append_assoc, List.getElem?_append_right (by omega), Nat.add_sub_cancel_left, List.getElem?_append_left hi]
abbrev rpt (b : Nat) : Value := .iface 119 (.pointer (some ⟨b, 0, none⟩))
def NdPr (u0 : World) (b t : Nat) (ty : TypeId) (r : List UInt8) (L : List Value) (o : Nat) (n : Nd) (W : World) : Prop := ∃ v, Rs u0 b t ty r (puts L o [.int .i64 n.id, .string n.kd, v]) W ∧ OwnRc W u0.heap.size v n.rc
theorem r_node (hu : 7 ≤ u0.heap.size) (hT : Tg b t ty) {o : Nat} {n : Nd} (hi : NdI n) (hL : L[o + 2]? = some (.slice none 0 0)) (hl : (encNd n ++ r).length ≤ 4294967280) :
    ∀ W, Rs u0 b t ty (encNd n ++ r) L W → Calls Tryz.prog 83 #[rpt b, .pointer (some ⟨t, o, none⟩)] W (Ret (NdPr u0 b t ty r L o n)) := fun W h => by
  have ho := (List.getElem?_eq_some_iff.1 hL).1
  have e : encNd n ++ r = encN n.id ++ (encT n.kd.data.toList ++ (encL encP n.rc ++ r)) := by unfold encNd; simp
  rw [e] at h hl
  have h1 : (encT n.kd.data.toList ++ (encL encP n.rc ++ r)).length ≤ 4294967280 := by rw [List.length_append] at hl; omega
  have h2 : (encL encP n.rc ++ r).length ≤ 4294967280 := by rw [List.length_append] at h1; omega
  exact node_walk fmR (p := ⟨b, 0, none⟩) h (r_num hT hi.1 (by omega) hl) (r_text hT (by rw [List.length_set]; omega) h1) (r_rec hu hT hi.2 (by rw [List.getElem?_set_ne (by omega), List.getElem?_set_ne (by omega)]; exact hL) h2)
abbrev zO : List Value := [.int .i64 0, .int .i64 0, .string ⟨#[]⟩, .slice none 0 0, .string ⟨#[]⟩, .int .i64 0, .int .i64 0, .string ⟨#[]⟩, .string ⟨#[]⟩, .int .i64 0, .int .i64 0]
def rdO (o : Opx) (v : Value) : Opx :=
  if o.wh = 1 then ⟨1, ⟨o.nd.id, o.nd.kd, v, o.nd.rc⟩, ⟨⟨#[]⟩, 0, 0, ⟨#[]⟩⟩, ⟨⟨#[]⟩, 0, 0⟩⟩
  else if o.wh = 2 then ⟨2, ⟨o.nd.id, ⟨#[]⟩, .slice none 0 0, []⟩, ⟨⟨#[]⟩, 0, 0, ⟨#[]⟩⟩, ⟨⟨#[]⟩, 0, 0⟩⟩
  else if o.wh = 3 then ⟨3, ⟨o.nd.id, ⟨#[]⟩, .slice none 0 0, []⟩, o.pr, ⟨⟨#[]⟩, 0, 0⟩⟩
  else if o.wh = 4 then ⟨4, ⟨o.nd.id, ⟨#[]⟩, .slice none 0 0, []⟩, ⟨o.pr.nm, 0, 0, ⟨#[]⟩⟩, ⟨⟨#[]⟩, 0, 0⟩⟩
  else ⟨o.wh, ⟨0, ⟨#[]⟩, .slice none 0 0, []⟩, ⟨⟨#[]⟩, 0, 0, ⟨#[]⟩⟩, o.te⟩
def OpP (u0 : World) (b t : Nat) (ty : TypeId) (r : List UInt8) (A C : List Value) (o : Opx) (W : World) : Prop := ∃ v, Rs u0 b t ty r (A ++ (rdO o v).cells ++ C) W ∧ OwnRc W u0.heap.size (rdO o v).nd.rv (rdO o v).nd.rc
theorem r_op (hu : 7 ≤ u0.heap.size) (hT : Tg b t ty) {A C : List Value} {o : Opx} (hi : OpI o) (hl : (encO o ++ r).length ≤ 4294967280) :
    ∀ W, Rs u0 b t ty (encO o ++ r) (A ++ zO ++ C) W → Calls Tryz.prog 56 #[rpt b, .pointer (some ⟨t, A.length, none⟩)] W (Ret (OpP u0 b t ty r A C o)) := fun W h => by
  have hlen : ∀ m : List Value, m.length = 11 → (A ++ m ++ C).length = A.length + 11 + C.length := fun m hm => by simp [hm]; omega
  have hz : (A ++ zO ++ C).length = A.length + 11 + C.length := hlen _ rfl
  have hw : I64r o.wh := ⟨by have := hi.w1; omega, by have := hi.w1; omega⟩
  have hwh : ∀ k : Int, o.wh = k → ∀ r', ∀ W', Rs u0 b t ty r' ((A ++ zO ++ C).set A.length (.int .i64 o.wh)) W' → W'.cell? ⟨t, A.length, none⟩ = some (.int .i64 k) := fun k e r' W' q => cell_at q.tg (by simp [e])
  have sub : ∀ z : List UInt8, encO o = encN o.wh ++ z → encO o ++ r = encN o.wh ++ (z ++ r) := fun z e => by rw [e, List.append_assoc]
  have fin : ∀ {m : List Value} {k : Nat} {vs : List Value}, k + vs.length ≤ m.length → puts (A ++ m ++ C) (A.length + k) vs = A ++ puts m k vs ++ C := fun {m k vs} h => puts_mid vs A m C k h
  have s0 : (A ++ zO ++ C).set A.length (.int .i64 o.wh) = A ++ zO.set 0 (.int .i64 o.wh) ++ C := set_mid A zO C 0 (by decide) _
  have n0 : ∀ z : List UInt8, (encN o.wh ++ (z ++ r)).length ≤ 4294967280 → ∀ W, Rs u0 b t ty (encN o.wh ++ (z ++ r)) (A ++ zO ++ C) W → Calls Tryz.prog 284 #[.pointer (some ⟨b, 0, none⟩), .pointer (some ⟨t, A.length, none⟩)] W.drew (Ret (Rs u0 b t ty (z ++ r) ((A ++ zO ++ C).set A.length (.int .i64 o.wh)))) := fun z hlz => r_num hT hw (by omega) hlz
  have h6 : o.wh = 1 ∨ o.wh = 2 ∨ o.wh = 3 ∨ o.wh = 4 ∨ o.wh = 5 ∨ o.wh = 6 := by have := hi.w1; omega
  rcases h6 with e | e | e | e | e | e
  · have ez : encO o = encN o.wh ++ encNd o.nd := by unfold encO; rw [if_pos e]
    rw [sub _ ez] at h hl
    have h1 : (encNd o.nd ++ r).length ≤ 4294967280 := by rw [List.length_append] at hl; omega
    have c := op1_walk fmR (p := ⟨b, 0, none⟩) h (n0 _ hl) (r_node hu hT (o := A.length + 1) (hi.nd e) (by rw [s0]; exact (get_mid A _ C 3 (by simp)).trans rfl) h1) (hwh 1 e _)
    refine c.mono fun e' w' q => ⟨q.1, ?_⟩
    obtain ⟨v, q1, q2⟩ := q.2
    refine ⟨v, ?_, ?_⟩
    · rw [s0, fin (by simp)] at q1
      unfold rdO
      rw [if_pos e]
      rw [e] at q1
      exact q1
    · unfold rdO
      rw [if_pos e]
      exact q2
  · have ez : encO o = encN o.wh ++ encN o.nd.id := by unfold encO; rw [if_neg (by omega), if_pos e]
    rw [sub _ ez] at h hl
    have h1 : (encN o.nd.id ++ r).length ≤ 4294967280 := by rw [List.length_append] at hl; omega
    have c := op2_walk fmR (p := ⟨b, 0, none⟩) h (n0 _ hl) (r_num hT (hi.id (by omega)) (by rw [List.length_set, hz]; omega) h1) (hwh 2 e _)
    refine c.mono fun e' w' q => ⟨q.1, .slice none 0 0, ?_, ?_⟩
    · have q1 := q.2
      rw [s0, set_mid _ _ _ 1 (by simp)] at q1
      unfold rdO
      rw [if_neg (by omega), if_pos e]
      rw [e] at q1
      exact q1
    · unfold rdO
      rw [if_neg (by omega), if_pos e]
      exact World.ownsRow_nil _ _ _ _
  · have ez : encO o = encN o.wh ++ (encN o.nd.id ++ encP o.pr) := by unfold encO; rw [if_neg (by omega), if_neg (by omega), if_pos e]
    rw [sub _ ez] at h hl
    have h1 : (encN o.nd.id ++ encP o.pr ++ r).length ≤ 4294967280 := by rw [List.length_append] at hl; omega
    rw [List.append_assoc] at h1
    have h2 : (encP o.pr ++ r).length ≤ 4294967280 := by rw [List.length_append] at h1; omega
    have c := op3_walk fmR (p := ⟨b, 0, none⟩) h (n0 _ hl) (by rw [List.append_assoc]; exact r_num hT (hi.id (by omega)) (by rw [List.length_set, hz]; omega) h1) (r_prop hT (o := A.length + 4) (hi.pr e) (by rw [List.length_set, List.length_set, hz]; omega) h2) (hwh 3 e _)
    refine c.mono fun e' w' q => ⟨q.1, .slice none 0 0, ?_, ?_⟩
    · have q1 := q.2
      rw [s0, set_mid _ _ _ 1 (by simp), fin (by rw [pr_len']; simp)] at q1
      unfold rdO
      rw [if_neg (by omega), if_neg (by omega), if_pos e]
      rw [e] at q1
      exact q1
    · unfold rdO
      rw [if_neg (by omega), if_neg (by omega), if_pos e]
      exact World.ownsRow_nil _ _ _ _
  · have ez : encO o = encN o.wh ++ (encN o.nd.id ++ encT o.pr.nm.data.toList) := by unfold encO; rw [if_neg (by omega), if_neg (by omega), if_neg (by omega), if_pos e]
    rw [sub _ ez] at h hl
    have h1 : (encN o.nd.id ++ encT o.pr.nm.data.toList ++ r).length ≤ 4294967280 := by rw [List.length_append] at hl; omega
    rw [List.append_assoc] at h1
    have h2 : (encT o.pr.nm.data.toList ++ r).length ≤ 4294967280 := by rw [List.length_append] at h1; omega
    have c := op4_walk fmR (p := ⟨b, 0, none⟩) h (n0 _ hl) (by rw [List.append_assoc]; exact r_num hT (hi.id (by omega)) (by rw [List.length_set, hz]; omega) h1) (r_text hT (by rw [List.length_set, List.length_set, hz]; omega) h2) (hwh 4 e _)
    refine c.mono fun e' w' q => ⟨q.1, .slice none 0 0, ?_, ?_⟩
    · have q1 := q.2
      rw [s0, set_mid _ _ _ 1 (by simp), set_mid _ _ _ 4 (by simp)] at q1
      unfold rdO
      rw [if_neg (by omega), if_neg (by omega), if_neg (by omega), if_pos e]
      rw [e] at q1
      exact q1
    · unfold rdO
      rw [if_neg (by omega), if_neg (by omega), if_neg (by omega), if_pos e]
      exact World.ownsRow_nil _ _ _ _
  all_goals
    have ez : encO o = encN o.wh ++ encTe o.te := by unfold encO; rw [if_neg (by omega), if_neg (by omega), if_neg (by omega), if_neg (by omega)]
    rw [sub _ ez] at h hl
    have h1 : (encTe o.te ++ r).length ≤ 4294967280 := by rw [List.length_append] at hl; omega
    have c3 := r_tie (u0 := u0) (L := (A ++ zO ++ C).set A.length (.int .i64 o.wh)) hT (o := A.length + 8) (hi.te (by omega)) (by rw [List.length_set, hz]; omega) h1
    have c : Calls Tryz.prog 56 #[rpt b, .pointer (some ⟨t, A.length, none⟩)] W (Ret (Rs u0 b t ty r (puts ((A ++ zO ++ C).set A.length (.int .i64 o.wh)) (A.length + 8) o.te.cells))) := by
      first
        | exact op5_walk fmR (p := ⟨b, 0, none⟩) h (n0 _ hl) c3 (hwh 5 e _)
        | exact op6_walk fmR (p := ⟨b, 0, none⟩) h (n0 _ hl) c3 (hwh 6 e _)
    refine c.mono fun e' w' q => ⟨q.1, .slice none 0 0, ?_, ?_⟩
    · have q1 := q.2
      rw [s0, fin (by rw [te_len]; simp)] at q1
      unfold rdO
      rw [if_neg (by omega), if_neg (by omega), if_neg (by omega), if_neg (by omega)]
      exact q1
    · unfold rdO
      rw [if_neg (by omega), if_neg (by omega), if_neg (by omega), if_neg (by omega)]
      exact World.ownsRow_nil _ _ _ _
end
section
variable {u0 : World} {b t : Nat} {ty : TypeId} {L : List Value} {r : List UInt8}
theorem rs_kt {W W' : World} {s : Nat} {ty' : TypeId} {r' : List UInt8} {M : List Value} (h : Rd W b r) (hs : Ty W s ty') (k : Rs W b s ty' r' M W') {e : TypeId} (h1 : e ≠ 121) (h2 : e ≠ ty') : Kt e W W' := by
  obtain ⟨v, h3, _⟩ := h
  obtain ⟨cs', h4⟩ := hs
  refine ⟨k.fr.size, fun x cs hx => (k.fr.block x (Array.getElem?_eq_some_iff.1 hx).1 ?_).trans hx⟩
  simp only [List.mem_cons, List.not_mem_nil, or_false, not_or]
  refine ⟨fun e1 => ?_, fun e1 => ?_⟩
  · subst e1; rw [h3] at hx; injection hx with e2; injection e2 with _ e3; exact h1 e3.symm
  · subst e1; rw [h4] at hx; injection hx with e2; injection e2 with _ e3; exact h2 e3.symm
theorem op_len' (o : Opx) : o.cells.length = 11 := rfl
def RdOf (X M : List Opx) : Prop := X.length = M.length ∧ ∀ (j : Nat) x, X[j]? = some x → ∃ o v, M[j]? = some o ∧ x = rdO o v
def OsRc (W : World) (B : Nat) (X : List Opx) : Prop := ∀ x ∈ X, OwnRc W B x.nd.rv x.nd.rc
theorem rdOf_snoc {X M : List Opx} {k : Nat} {o : Opx} {v : Value} (h : RdOf X (M.take k)) (hk : k < M.length) (ho : M[k]? = some o) : RdOf (X ++ [rdO o v]) (M.take (k + 1)) := by
  have hX : X.length = k := by rw [h.1, List.length_take, Nat.min_eq_left (by omega)]
  refine ⟨by simp [hX]; omega, fun j x hx => ?_⟩
  rcases Nat.lt_or_ge j k with hj | hj
  · rw [List.getElem?_append_left (by omega)] at hx
    obtain ⟨o', v', h1, h2⟩ := h.2 j x hx
    refine ⟨o', v', ?_, h2⟩
    rw [List.getElem?_take_of_lt (by omega)]
    rwa [List.getElem?_take_of_lt hj] at h1
  · obtain rfl : j = k := by
      have := (List.getElem?_eq_some_iff.1 hx).1
      simp [hX] at this
      omega
    rw [List.getElem?_append_right (by omega), hX, Nat.sub_self] at hx
    simp at hx
    exact ⟨o, v, by rw [List.getElem?_take_of_lt (by omega)]; exact ho, hx.symm⟩
def OsP (u0 : World) (b t : Nat) (ty : TypeId) (r : List UInt8) (L : List Value) (o : Nat) (M : List Opx) (W : World) : Prop :=
  ∃ v X, RdOf X M ∧ Rs u0 b t ty r (L.set o v) W ∧ W.ownsRow u0.heap.size 48 11 v X.length (X.flatMap Opx.cells) ∧ OsRc W u0.heap.size X
theorem r_ops (hu : 7 ≤ u0.heap.size) (hT : Tg b t ty) {o : Nat} {M : List Opx} (hi : ∀ p ∈ M, OpI p) (hL : L[o]? = some (.slice none 0 0)) (hl : (encL encO M ++ r).length ≤ 4294967280) :
    ∀ W, Rs u0 b t ty (encL encO M ++ r) L W → Calls Tryz.prog 55 #[rpt b, .pointer (some ⟨t, o, none⟩), .func (.func 56) #[] #[]] W (Ret (OsP u0 b t ty r L o M)) := fun W h => by
  have hn := encL_ge encO encO_pos M
  have e : encL encO M ++ r = encN M.length ++ (M.flatMap encO ++ r) := by unfold encL; simp
  have hMl : M.length ≤ 4294967280 := by rw [List.length_append] at hl; omega
  rw [e] at h hl
  have hl2 : (M.flatMap encO ++ r).length ≤ 4294967280 := by rw [List.length_append] at hl; omega
  have cN := r_len hT hMl h hl
  have hcell : ∀ W', Rs u0 b t ty (M.flatMap encO ++ r) L W' → W'.cell? ⟨t, o, none⟩ = some (.slice none 0 0) := fun W' q => cell_at q.tg (by simpa using hL)
  have cc : W.cell? ⟨t, o, none⟩ = some (.slice none 0 0) := cell_at h.tg (by simpa using hL)
  rcases Nat.eq_zero_or_pos M.length with h0 | h0
  · obtain rfl := List.eq_nil_of_length_eq_zero h0
    have c := lsO_walk fmR (p := ⟨b, 0, none⟩) (g := t) (off := o) (n := 0) (cp := 0) (eb := 0) (eo := 0) (ao := none) (w := W) (Q := fun k => Rs u0 b t ty r L) (by omega) (fun h => by omega) cc cN (fun w' q => ⟨q.2, hcell w' q.1⟩) (fun w' q hq => hq.1.drewN q) (fun k w' q => hcell w' q) (fun k hk => by omega)
    exact c.mono fun e' w' q => ⟨q.1, .slice none 0 0, [], ⟨rfl, fun j x hx => by simp at hx⟩, by rw [setSame hL]; exact q.2, World.ownsRow_nil _ _ _ _, fun x hx => by cases hx⟩
  · have c := lsO_make fmR (p := ⟨b, 0, none⟩) (g := t) (off := o) (n := M.length) (w := W) (Q := fun eb k W' => u0.heap.size ≤ eb ∧ eb ≠ t ∧ ∃ X, RdOf X (M.take k) ∧ OsRc W' u0.heap.size X ∧ Rs u0 b t ty ((M.drop k).flatMap encO ++ r) (L.set o (.slice (some ⟨eb, 0, none⟩) M.length M.length)) W' ∧ W'.heap[eb]? = some (.cells (X.flatMap Opx.cells ++ (List.replicate (M.length - k) zO).flatten).toArray 48 (0, 0)))
      (by omega) h0 cc cN (fun w' q => ⟨q.2, hcell w' q.1, frz_at q.1.tg⟩) (fun w' q hq => by
        obtain ⟨q1, q2, q3, q4⟩ := rs_make hq.1 hT q o M.length (madeCells (Value.cells (.agg #[.int .i64 0, .int .i64 0, .string ⟨#[]⟩, .slice none 0 0, .string ⟨#[]⟩, .int .i64 0, .int .i64 0, .string ⟨#[]⟩, .string ⟨#[]⟩, .int .i64 0, .int .i64 0])) (M.length * 11)) 48
        refine ⟨q4, q3, [], ⟨by simp, fun j x hx => by simp at hx⟩, fun x hx => (by cases hx), q1, q2.trans ?_⟩
        have := made_flat zO (by decide) M.length
        congr 2
        apply Array.toList_inj.1
        simp only [List.flatMap_nil, List.nil_append, Nat.sub_zero]
        exact this) (fun eb k w' q => by
        obtain ⟨_, _, X, _, _, q3, _⟩ := q
        exact cell_at q3.tg (by
          have := (List.getElem?_eq_some_iff.1 hL).1
          simp [this])) (fun eb k hk w' q => by
        obtain ⟨q1, q2, X, qX, qO, q3, q4⟩ := q
        obtain ⟨x, hx⟩ : ∃ x, M[k]? = some x := ⟨M[k], by simp [hk]⟩
        have hXl : X.length = k := by rw [qX.1, List.length_take, Nat.min_eq_left (by omega)]
        have hd := encL_drop encO M k x hx
        have hA : (X.flatMap Opx.cells).length = k * 11 := by rw [flatLen op_len', hXl]
        have hz : (List.replicate (M.length - k) zO).flatten = zO ++ (List.replicate (M.length - (k + 1)) zO).flatten := by
          rw [show M.length - k = M.length - (k + 1) + 1 by omega, List.replicate_succ, List.flatten_cons]
        rw [hz, ← List.append_assoc] at q4
        rw [hd, List.append_assoc] at q3
        have q5 := q3.refl q4
        have hT2 : Tg b eb 48 := ⟨by decide, by decide, hT.b7, by omega⟩
        have c := r_op (u0 := w') (r := (M.drop (k + 1)).flatMap encO ++ r) (A := X.flatMap Opx.cells) (C := (List.replicate (M.length - (k + 1)) zO).flatten) (Nat.le_trans hu q3.fr.size) hT2 (hi x (List.mem_of_getElem? hx)) (by
          have hle : ((M.drop k).flatMap encO).length ≤ (M.flatMap encO).length := by
            conv => rhs; rw [← List.take_append_drop k M, List.flatMap_append]
            simp
          rw [← List.append_assoc, ← hd]
          simp only [List.length_append] at hl2 ⊢
          omega) w' q5
        rw [hA] at c
        refine c.mono fun e' w2 qq => ⟨qq.1, ?_⟩
        obtain ⟨v, p1, p2⟩ := qq.2
        have k44 := rs_kt (e := 44) q3.rd ⟨_, q4⟩ p1 (by decide) (by decide)
        refine ⟨q1, q2, X ++ [rdO x v], rdOf_snoc qX hk hx, fun y hy => ?_, rs_row q3 hT p1 q1 q2, ?_⟩
        · rcases List.mem_append.1 hy with hy | hy
          · exact (qO y hy).kt k44
          · simp only [List.mem_singleton] at hy
            subst hy
            exact own_base p2 q3.fr.size
        · rw [p1.tg]
          simp)
    refine c.mono fun e' w' q => ⟨q.1, ?_⟩
    obtain ⟨eb, q1, q2, X, qX, qO, q3, q4⟩ := q.2
    rw [List.take_length] at qX
    rw [Nat.sub_self, List.replicate_zero, List.flatten_nil, List.append_nil] at q4
    refine ⟨_, X, qX, by simpa using q3, ?_, qO⟩
    have := own_all (n := M.length) (sz := 11) q4 (by rw [flatLen op_len', qX.1]) q1 (by unfold maxLen; omega)
    rw [qX.1]
    exact this
def EnP0 (B : Nat) (M : List Opx) (cs : List Value) (W : World) : Prop := ∃ v X, RdOf X M ∧ cs[0]? = some (.bool false) ∧ cs[1]? = some v ∧ cs.length = 20 ∧ (∀ u ∈ cs, u.oneCell' = true) ∧ W.ownsRow B 48 11 v X.length (X.flatMap Opx.cells) ∧ OsRc W B X
abbrev zE : List Value := [.bool false, .slice none 0 0, .int .i64 0, .string ⟨#[]⟩, .string ⟨#[]⟩, .slice none 0 0, .slice none 0 0, .string ⟨#[]⟩, .string ⟨#[]⟩, .string ⟨#[]⟩, .int .i64 0, .int .i64 0, .string ⟨#[]⟩, .int .i64 0, .bool false, .bool false, .int .i64 0, .int .i64 0, .string ⟨#[]⟩, .string ⟨#[]⟩]
theorem r_ent0 (hu : 7 ≤ u0.heap.size) (hT : Tg b t 75) {M : List Opx} (hi : ∀ p ∈ M, OpI p) (hl : (encE0 M ++ r).length ≤ 4294967280) :
    ∀ W, Rs u0 b t 75 (encE0 M ++ r) zE W → Calls Tryz.prog 31 #[.pointer (some ⟨t, 0, none⟩), rpt b] W (Ret fun W' => ∃ cs, Rs u0 b t 75 r cs W' ∧ EnP0 u0.heap.size M cs W') := fun W h => by
  have e : encE0 M ++ r = encB false ++ (encL encO M ++ r) := by unfold encE0; simp
  rw [e] at h hl
  have h1 : (encL encO M ++ r).length ≤ 4294967280 := by rw [List.length_append] at hl; omega
  have c := ent0_walk fmR (p := ⟨b, 0, none⟩) (g := t) (off := 0) h (r_tru hT (by decide) hl) (r_ops (r := r) hu hT (o := 0 + 1) hi rfl h1) (fun W' q => cell_at q.tg rfl)
  refine c.mono fun e' w' q => ⟨q.1, ?_⟩
  obtain ⟨v, X, q1, q2, q3, q4⟩ := q.2
  obtain ⟨a, c, hv⟩ := own_slice q3
  refine ⟨_, q2, v, X, q1, rfl, rfl, rfl, ?_, q3, q4⟩
  subst hv
  intro u hu'
  simp at hu'
  rcases hu' with rfl | rfl | rfl | rfl | rfl | rfl | rfl | rfl | rfl | rfl | rfl | rfl | rfl | rfl | rfl | rfl | rfl | rfl | rfl | rfl <;> rfl
end
structure Lg where
  L0 : List Kd
  B0 : List Bd
  L : List Kd
  B : List Bd
  N : List Nd
  T : List Te
  bs : List UInt8
  sf : Int
  lf : Int
  st : Bool
def ScAt (w : World) (base : Nat) (vk vb : Value) (L : List Kd) (B : List Bd) : Prop := ∃ K, K.map kq3 = L.map kq3 ∧ OwnKs w base vk K ∧ OwnBs w base vb B
def GrAt (w : World) (base : Nat) (vn vt : Value) (N : List Nd) (T : List Te) : Prop := ∃ M, cN M = N ∧ OwnNs w base vn M ∧ OwnTs w base vt T ∧ gErr M T = 0
theorem ScAt.kt {w w' : World} {base : Nat} {vk vb : Value} {L : List Kd} {B : List Bd} (h : ScAt w base vk vb L B) (hk : ∀ t, t ≠ 69 → t ≠ 72 → t ≠ 5 → Kt t w w') : ScAt w' base vk vb L B := by
  obtain ⟨K, h1, h2, h3⟩ := h
  exact ⟨K, h1, h2.kt (hk _ (by decide) (by decide) (by decide)) (hk _ (by decide) (by decide) (by decide)) (hk _ (by decide) (by decide) (by decide)), own_kt h3 (hk _ (by decide) (by decide) (by decide))⟩
theorem GrAt.kt {w w' : World} {base : Nat} {vn vt : Value} {N : List Nd} {T : List Te} (h : GrAt w base vn vt N T) (hk : ∀ t, t ≠ 69 → t ≠ 72 → t ≠ 5 → Kt t w w') : GrAt w' base vn vt N T := by
  obtain ⟨M, h1, h2, h3, h4⟩ := h
  exact ⟨M, h1, h2.kt (hk _ (by decide) (by decide) (by decide)) (hk _ (by decide) (by decide) (by decide)), h3.kt (hk _ (by decide) (by decide) (by decide)), h4⟩
theorem ScAt.sl {w : World} {base : Nat} {vk vb : Value} {L : List Kd} {B : List Bd} (h : ScAt w base vk vb L B) : (∃ a n c, vk = .slice a n c) ∧ ∃ a n c, vb = .slice a n c := by
  obtain ⟨K, _, h2, h3⟩ := h
  exact ⟨(own_slice h2.1).imp fun _ h => ⟨_, h⟩, (own_slice h3).imp fun _ h => ⟨_, h⟩⟩
theorem GrAt.sl {w : World} {base : Nat} {vn vt : Value} {N : List Nd} {T : List Te} (h : GrAt w base vn vt N T) : (∃ a n c, vn = .slice a n c) ∧ ∃ a n c, vt = .slice a n c := by
  obtain ⟨M, _, h2, h3, _⟩ := h
  exact ⟨(own_slice h2.1).imp fun _ h => ⟨_, h⟩, (own_slice h3).imp fun _ h => ⟨_, h⟩⟩
theorem sc_sl4 {w w' : World} {base base' : Nat} {a b c d : Value} {L : List Kd} {B : List Bd} {N : List Nd} {T : List Te} (h : ScAt w base a b L B) (k : GrAt w' base' c d N T) : Sl4 a b c d := by
  obtain ⟨⟨_, _, _, h1⟩, _, _, _, h2⟩ := h.sl
  obtain ⟨⟨_, _, _, h3⟩, _, _, _, h4⟩ := k.sl
  exact ⟨_, _, _, _, _, _, _, _, _, _, _, _, h1, h2, h3, h4⟩
def LgAt (w : World) (base p : Nat) (s : Lg) : Prop := ∃ vk0 vb0 vk vb vn vt vy, w.heap[p]? = some (.cells (lgC vk0 vb0 vk vb vn vt vy s.sf s.lf s.st) 72 (0, 0)) ∧ base ≤ p ∧ ScAt w base vk0 vb0 s.L0 s.B0 ∧ ScAt w base vk vb s.L s.B ∧ GrAt w base vn vt s.N s.T ∧ w.ownsRow base 5 1 vy s.bs.length (Lib.byteCells s.bs)
structure LgOk (s : Lg) : Prop where
  k0 : SzK s.L0
  b0 : SzB s.B0
  s0 : (sErr s.L0 s.B0).2 = 0
  k1 : SzK s.L
  b1 : SzB s.B
  s1 : (sErr s.L s.B).2 = 0
  l0 : -9223372036854775808 ≤ s.lf
  l1 : s.lf < 9223372036854775808
def FrL (base : Nat) (w w' : World) : Prop := Below base w w' ∧ ∀ t, t ≠ 72 → t ≠ 5 → Kt t w w'
def stepS (s : Lg) (ee : Int) (r : List UInt8) (L : List Kd) (B : List Bd) (N : List Nd) (T : List Te) : Int × Lg :=
  if s.st = true then (6, s) else if ee ≠ 0 then (ee, s) else if s.lf = 0 then (6, { s with bs := s.bs ++ r.take (r.length / 2), lf := 0, st := true })
  else (0, { s with bs := s.bs ++ r, lf := lfN s.lf, st := false, L := L, B := B, N := N, T := T })
abbrev QsL (base : Nat) (L : List Kd) (B : List Bd) (N : List Nd) (T : List Te) (W : World) (a b c d : Value) : Prop := ScAt W base a b L B ∧ GrAt W base c d N T
theorem lstep_any {w : World} {base p : Nat} {s : Lg} {vk0 vb0 vk vb vn vt vy : Value} {cs : Array Value} {ee : Int} {r : List UInt8} {L : List Kd} {B : List Bd} {N : List Nd} {T : List Te}
    (hp : w.heap[p]? = some (.cells (lgC vk0 vb0 vk vb vn vt vy s.sf s.lf s.st) 72 (0, 0))) (hbp : base ≤ p) (h0 : ScAt w base vk0 vb0 s.L0 s.B0) (h1 : ScAt w base vk vb s.L s.B) (h2 : GrAt w base vn vt s.N s.T) (hy : w.ownsRow base 5 1 vy s.bs.length (Lib.byteCells s.bs)) (hok : LgOk s) (hcs : cs.size = 20)
    (hw : ∀ W, Below w.heap.size w W → Calls Tryz.prog 20 #[.agg #[vk, vb, vn, vt], .agg cs] W (LwiP ee (QsL base L B N T) W))
    (hr : ee = 0 → ∀ W, Below w.heap.size w W → Calls Tryz.prog 21 #[.agg cs] W fun e w' => ∃ v, e = .returned v ∧ w'.ownsRow W.heap.size 5 1 v r.length (Lib.byteCells r) ∧ Below W.heap.size W w')
    (hr2 : 2 ≤ r.length) (hz : s.bs.length + r.length ≤ 1000000000) :
    Calls Tryz.prog 14 #[.pointer (some ⟨p, 0, none⟩), .agg cs] w fun e w' => e = .returned (errV (stepS s ee r L B N T).1) ∧ LgAt w' base p (stepS s ee r L B N T).2 ∧ FrL base w w' := by
  refine (ldo_any hp hbp hy hok.l0 hok.l1 hcs hw (fun W W' a b c d h hk => ⟨h.1.kt hk, h.2.kt hk⟩) hr hr2 hz).mono ?_
  rintro e w' ⟨hB, hk, h⟩
  have hk3 : ∀ t, t ≠ 69 → t ≠ 72 → t ≠ 5 → Kt t w w' := fun t _ h5 h6 => hk t h5 h6
  have g0 := h0.kt hk3
  have g1 := h1.kt hk3
  have g2 := h2.kt hk3
  unfold stepS
  by_cases c1 : s.st = true
  · rw [if_pos c1] at h ⊢
    obtain ⟨rfl, q1, q2⟩ := h
    exact ⟨rfl, ⟨_, _, _, _, _, _, _, q1, hbp, g0, g1, g2, q2⟩, hB, hk⟩
  rw [if_neg c1] at h ⊢
  by_cases c2 : ee ≠ 0
  · rw [if_pos c2] at h ⊢
    obtain ⟨rfl, q1, q2⟩ := h
    exact ⟨by rw [errV_ne c2], ⟨_, _, _, _, _, _, _, q1, hbp, g0, g1, g2, q2⟩, hB, hk⟩
  rw [if_neg c2] at h ⊢
  obtain ⟨vy', h⟩ := h
  by_cases c3 : s.lf = 0
  · rw [if_pos c3] at h ⊢
    obtain ⟨rfl, q1, q2⟩ := h
    exact ⟨rfl, ⟨_, _, _, _, _, _, _, q1, hbp, g0, g1, g2, q2⟩, hB, hk⟩
  rw [if_neg c3] at h ⊢
  obtain ⟨a, b, c, d, rfl, q1, q2, q3⟩ := h
  exact ⟨by rw [errV_0], ⟨_, _, _, _, _, _, _, q1, hbp, g0, q2.1, q2.2, q3⟩, hB, hk⟩
end Go.Proofs.YtahamkajkkkjdaaGreatDoor
