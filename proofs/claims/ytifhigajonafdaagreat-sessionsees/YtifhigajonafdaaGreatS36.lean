/-
  The walk of tables.noteKeys.
-/
import Derived.Test.YtifhigajonafdaaGreatS35
namespace Go.Proofs.YtifhigajonafdaaGreat
open Go.RowKit
open Go.Maps (Keyed)
set_option linter.unusedVariables false
set_option linter.unusedSimpArgs false

def keyO (nm : ByteArray) (p : Pr) : KeyJ := (nm, p.nm, p.t, p.n, p.s)
def noteS (nm : ByteArray) (ks : List Nm) (id : Int) (G : KeyJ → Option Int) (p : Pr) : KeyJ → Option Int := if (!(G (keyO nm p)).isSome && hasN ks p.nm.toList) = true then upd G (keyO nm p) id else G
def noteF (nm : ByteArray) (ks : List Nm) (id : Int) (G : KeyJ → Option Int) (rc : List Pr) : KeyJ → Option Int := rc.foldl (noteS nm ks id) G
def MapJ (w : World) (m : Nat) (G : KeyJ → Option Int) : Prop := OwnM w Tryz.prog 203 encJ m (fun x => (G x).map (.int .i64))
set_option maxHeartbeats 8000000 in
set_option maxRecDepth 100000 in
theorem noteKeys_any {m1 m2 m3 : Nat} {w : World} {G : KeyJ → Option Int} (hG : MapJ w m2 G) {nm kd : ByteArray} {ks : List Nm} {vks rv : Value} (hS : IsS w vks ks) (hks : ks.length ≤ 1000) {id : Int} {rc : List Pr} (hR : IsR w rv rc) (hrc : rc.length ≤ 1000) (hl : ∀ p ∈ rc, ∃ l, keyOf Tryz.prog 203 (encJ (keyO nm p)) = some l) :
    Calls Tryz.prog 65 #[.agg #[.map (some m1), .map (some m2), .map (some m3)], .string nm, vks, .agg #[.int .i64 id, .string kd, rv]] w fun e w' => e = .returned (.tuple #[]) ∧ MapJ w' m2 (noteF nm ks id G rc) ∧ w.grownBy w' (some m2) ∧ Kp w w' := by
  obtain ⟨W0, hW0⟩ : ∃ W0, W0 = (w.alloc (.cells #[.map (some m1), .map (some m2), .map (some m3)] 102)).alloc (.cells #[.int .i64 id, .string kd, rv] 48) := ⟨_, rfl⟩
  have hB0 : Below w.heap.size w W0 := by rw [hW0]; exact b_alloc (b_alloc (Below.refl _ _) _) _
  have hs0 : W0.heap.size = w.heap.size + 2 := by rw [hW0]; simp
  have n0 : W0.heap[w.heap.size]? = some (.cells #[.map (some m1), .map (some m2), .map (some m3)] 102 (0, 0)) := by rw [hW0]; exact (Below.heap_alloc _ _ _ (by simp)).trans (heap_alloc_new w _)
  have n1 : W0.heap[w.heap.size + 1]? = some (.cells #[.int .i64 id, .string kd, rv] 48 (0, 0)) := by
    have := heap_alloc_new (w.alloc (.cells #[.map (some m1), .map (some m2), .map (some m3)] 102)) (.cells #[.int .i64 id, .string kd, rv] 48)
    rw [World.size_alloc] at this; rw [hW0]; exact this
  have hG0 : MapJ W0 m2 (noteF nm ks id G (rc.take 0)) := OwnM.of_block hG (hB0.block m2 hG.lt)
  have HH : Hid (Below w.heap.size w W0 ∧ W0.cell? ⟨w.heap.size, 1, none⟩ = some (.map (some m2)) ∧ W0.cell? ⟨w.heap.size + 1, 0, none⟩ = some (.int .i64 id) ∧ MapJ W0 m2 (noteF nm ks id G (rc.take 0)) ∧ IsS W0 vks ks ∧ IsR W0 rv rc) := ⟨hB0, cell_at n0 rfl, cell_at n1 rfl, hG0, hS.kp (.of_below hB0), hR.kp (.of_below hB0)⟩
  obtain ⟨av, lv, rfl, _⟩ := hR
  obtain ⟨as', ls, cs', rfl⟩ : ∃ a l c, vks = .slice a l c := by
    rcases hS with ⟨a, c, rfl, _⟩ | ⟨b, off, c, rfl, _⟩
    · exact ⟨_, _, _, rfl⟩
    · exact ⟨_, _, _, rfl⟩
  have c2 : W0.cell? ⟨w.heap.size + 1, 2, none⟩ = some (.slice av rc.length lv) := cell_at n1 rfl
  clear hB0 n0 n1 hG0 hG hS
  go_enter Tryz.func65, Tryz.ntmps65
  go_upto_region 1 with fail
  rw [← hW0]
  clear hW0
  go_wp2
  go_loopw [16] (fun i wr => ∃ k : Nat, k ≤ rc.length ∧ i = .int .i64 k ∧ MapJ wr m2 (noteF nm ks id G (rc.take k)) ∧ W0.grownBy wr (some m2) ∧ Kp W0 wr) (fun i _ => rc.length - (intOf i).toNat)
  case atStart => exact ⟨0, Nat.zero_le _, rfl, HH.out.2.2.2.1, but_of_below (Below.refl _ _) _, Kp.refl _⟩
  case round =>
    obtain ⟨k, hk, rfl, hM, hg, hK⟩ := hrel
    by_cases hlt : k < rc.length
    · obtain ⟨x, hx⟩ : ∃ x, rc[k]? = some x := ⟨rc[k], by simp [hlt]⟩
      have hxm := List.mem_of_getElem? hx
      obtain ⟨lx, hlx⟩ := hl x hxm
      obtain ⟨b, off, c, hv, hb, e0, e1, e2, e3⟩ := (HH.out.2.2.2.2.2.kp hK).at hx
      injection hv with hv1 hv2 hv3
      subst hv1 hv3
      clear hv2
      have hT : noteF nm ks id G (rc.take (k + 1)) = noteS nm ks id (noteF nm ks id G (rc.take k)) x := foldl_take _ _ hx
      obtain ⟨W1, hW1⟩ : ∃ W1, W1 = wr.alloc (.cells #[.string x.nm, .int .i64 x.t, .int .i64 x.n, .string x.s] 52) := ⟨_, rfl⟩
      obtain ⟨W2, hW2⟩ : ∃ W2, W2 = W1.alloc (.cells #[.string nm, .string x.nm, .int .i64 x.t, .int .i64 x.n, .string x.s] 203) := ⟨_, rfl⟩
      have hB1 : Below wr.heap.size wr W1 := by rw [hW1]; exact b_alloc (Below.refl _ _) _
      have hB2 : Below W1.heap.size W1 W2 := by rw [hW2]; exact b_alloc (Below.refl _ _) _
      have hB12 := on1K hB1 hB2 (Nat.le_refl _)
      have m0 : W1.heap[wr.heap.size]? = some (.cells #[.string x.nm, .int .i64 x.t, .int .i64 x.n, .string x.s] 52 (0, 0)) := by rw [hW1]; exact heap_alloc_new wr _
      have m4 : W2.heap[W1.heap.size]? = some (.cells #[.string nm, .string x.nm, .int .i64 x.t, .int .i64 x.n, .string x.s] 203 (0, 0)) := by rw [hW2]; exact heap_alloc_new W1 _
      have m0' := (hB2.block _ (Array.getElem?_eq_some_iff.1 m0).1).trans m0
      have hK2 := hK.trans (.of_below hB12)
      have hM2 : MapJ W2 m2 (noteF nm ks id G (rc.take k)) := OwnM.of_block hM (hB12.block m2 hM.lt)
      have u0 : W1.cell? ⟨wr.heap.size, 0, none⟩ = some (.string x.nm) := cell_at m0 rfl
      have u1 : W1.cell? ⟨wr.heap.size, 1, none⟩ = some (.int .i64 x.t) := cell_at m0 rfl
      have u2 : W1.cell? ⟨wr.heap.size, 2, none⟩ = some (.int .i64 x.n) := cell_at m0 rfl
      have u3 : W1.cell? ⟨wr.heap.size, 3, none⟩ = some (.string x.s) := cell_at m0 rfl
      have t0 : W2.cell? ⟨W1.heap.size, 0, none⟩ = some (.string nm) := cell_at m4 rfl
      have t1 : W2.cell? ⟨W1.heap.size, 1, none⟩ = some (.string x.nm) := cell_at m4 rfl
      have t2 : W2.cell? ⟨W1.heap.size, 2, none⟩ = some (.int .i64 x.t) := cell_at m4 rfl
      have t3 : W2.cell? ⟨W1.heap.size, 3, none⟩ = some (.int .i64 x.n) := cell_at m4 rfl
      have t4 : W2.cell? ⟨W1.heap.size, 4, none⟩ = some (.string x.s) := cell_at m4 rfl
      have u0' : W2.cell? ⟨wr.heap.size, 0, none⟩ = some (.string x.nm) := cell_at m0' rfl
      have g1 := hK2.2 _ _ HH.out.2.1
      have g2 := hK2.2 _ _ HH.out.2.2.1
      have cc := contains_any (HH.out.2.2.2.2.1.kp hK2) hks x.nm.toList
      rw [bs_self] at cc
      have hlook := hM2.look keyedJ encJ_inj Tryz.underlying99 (zero3 W2) hlx true
      obtain ⟨W3, p1, p2, p3⟩ := hM2.put keyedJ encJ_inj Tryz.underlying99 hlx (.int .i64 id)
      rw [upd_map] at p2
      have HP : Hid (MapJ W3 m2 (upd (noteF nm ks id G (rc.take k)) (keyO nm x) id) ∧ W0.grownBy W3 (some m2) ∧ Kp W0 W3) := ⟨p2, but_trans (but_below hg hB12) p3, hK2.trans (but_map hM2 p3)⟩
      have HQ : Hid (MapJ W2 m2 (noteF nm ks id G (rc.take k)) ∧ W0.grownBy W2 (some m2) ∧ Kp W0 W2) := ⟨hM2, but_below hg hB12, hK2⟩
      have HW1 := Lib.hid hW1
      have HW2 := Lib.hid hW2
      have HT := Lib.hid hT
      have hse : noteS nm ks id (noteF nm ks id G (rc.take k)) x = if (!(noteF nm ks id G (rc.take k) (keyO nm x)).isSome && hasN ks x.nm.toList) = true then upd (noteF nm ks id G (rc.take k)) (keyO nm x) id else noteF nm ks id G (rc.take k) := rfl
      have HSE := Lib.hid hse
      generalize hasN ks x.nm.toList = hn1 at cc HSE
      obtain ⟨o, ho⟩ : ∃ o, o = noteF nm ks id G (rc.take k) (keyO nm x) := ⟨_, rfl⟩
      rw [← ho] at hlook HSE
      unfold encJ keyO at hlook p1
      simp only at hlook p1
      obtain ⟨xn, xt, xm, xs⟩ := x
      simp only at *
      clear hB1 hB2 hB12 m0 m0' m4 hK hK2 hM hM2 hg p2 p3 hx hxm hlx hT hse ho hW1 hW2
      cases o with
      | some id0 =>
        simp only [Option.map_some, Option.getD_some, Option.isSome_some, if_true] at hlook
        go_upto_region 4 with fail
        rw [← HW1.out]
        go_upto_region 5 with fail
        rw [← HW2.out]
        go_wp2
        go_roundw
        case rel => exact ⟨k + 1, by omega, by go_num, by rw [HT.out, HSE.out]; exact HQ.out.1, HQ.out.2⟩
        case measure => simp [intOf]; omega
      | none =>
        simp only [Option.map_none, Option.getD_none, Option.isSome_none, if_true] at hlook
        cases hn1
        · skip
          go_upto_region 4 with fail
          rw [← HW1.out]
          go_upto_region 5 with fail
          rw [← HW2.out]
          go_wp2_with (first | (go_at_call 94; refine cc.mono ?_; rintro e W4 ⟨rfl, rfl⟩))
          go_roundw
          case rel => exact ⟨k + 1, by omega, by go_num, by rw [HT.out, HSE.out]; exact HQ.out.1, HQ.out.2⟩
          case measure => simp [intOf]; omega
        · skip
          go_upto_region 4 with fail
          rw [← HW1.out]
          go_upto_region 5 with fail
          rw [← HW2.out]
          go_wp2_with (first | (go_at_call 94; refine cc.mono ?_; rintro e W4 ⟨rfl, rfl⟩))
          go_roundw
          case rel => exact ⟨k + 1, by omega, by go_num, by rw [HT.out, HSE.out]; exact HP.out.1, HP.out.2⟩
          case measure => simp [intOf]; omega
    · obtain rfl : k = rc.length := by omega
      rw [List.take_length] at hM
      go_wp2
      go_end0
      exact ⟨rfl, hM, but_trans (but_of_below HH.out.1 _) hg, (Kp.of_below HH.out.1).trans hK⟩
end Go.Proofs.YtifhigajonafdaaGreat

/-
  Where append leaves a row of the call's own; a map to such rows, two keys' rows apart.
-/
namespace Go.Proofs.YtifhigajonafdaaGreat
open Go.RowKit
open Go.Maps (Keyed)
set_option linter.unusedVariables false
set_option linter.unusedSimpArgs false

def Moved (w : World) (v v' : Value) : Prop := v'.ownBlock = v.ownBlock ∨ ∃ g, v'.ownBlock = some g ∧ w.heap.size ≤ g
theorem append_at {P : Program} (w : World) (base : Nat) (t ty e : TypeId) (i : TypeInfo) (z : Value) (size bytes : Nat) (ht : P.underlying t = some (.slice e)) (hi : P.info? e = some i) (hz : i.zero = some z)
    (hsize : i.size = size) (hby : i.bytes = bytes) (hzs : z.cells.size = size) (hsz : 0 < size) (v : Value) (n : Nat) (xs : List Value) (hown : w.ownsRow base e size v n xs)
    (a : Addr) (m c : Nat) (hm : 0 < m) (news : List Value) (hl : news.length = m * size) (hnews : ∀ j u, news[j]? = some u → w.cell? (a.add j) = some u) (h1 : ∀ u ∈ news, u.oneCell' = true)
    (h63 : n + m ≤ maxLen) (hbytes : (n + m) * bytes ≤ 140737488355328) (hbase : base ≤ w.heap.size) :
    ∃ v' w', (Builtin.append_ #[t, t] ty #[v, .slice (some a) m c]).run P w = .ok v' w' ∧ w'.ownsRow base e size v' (n + m) (xs ++ news) ∧ w.grownBy w' v.ownBlock ∧ Moved w v v' ∧ v'.ownBlock ≠ none := by
  obtain ⟨v', w', r1, r2, r3, r4⟩ := run_append_own (P := P) w base t ty e i z size bytes ht hi hz hsize hby hzs hsz v n xs hown a m c news hl hnews h1 h63 hbytes hbase
  have hnn : v'.ownBlock ≠ none := by
    rcases r2.2 with ⟨_, h0⟩ | ⟨g, cap, cur, rfl, _⟩
    · omega
    · simp [Value.ownBlock]
  refine ⟨v', w', r1, r2, r3, ?_, hnn⟩
  have hsmall : n + m ≤ 9223372036854775807 := by simp only [maxLen] at h63; omega
  rcases hown.2 with ⟨rfl, rfl⟩ | ⟨g, cap, cur, rfl, hbg, hg, hnc, hcm, hcs, htake⟩
  · have hx : xs = [] := List.eq_nil_of_length_eq_zero (by simpa using hown.1)
    subst hx
    obtain ⟨v2, w2, q1, q2, _, _⟩ := run_append_own (P := P) w w.heap.size t ty e i z size bytes ht hi hz hsize hby hzs hsz (.slice none 0 0) 0 [] (World.ownsRow_nil _ _ _ _) a m c news hl hnews h1 h63 hbytes (Nat.le_refl _)
    rw [r1] at q1
    injection q1 with e1 e2
    subst e1
    rcases q2.2 with ⟨_, h0⟩ | ⟨g, cap, cur, rfl, hge, _⟩
    · omega
    · exact .inr ⟨g, rfl, hge⟩
  · subst hsize hby
    by_cases hroom : n + m ≤ cap
    · have hfit : n * i.size + news.length ≤ cur.size := by rw [hl, hcs, ← Nat.add_mul]; exact Nat.mul_le_mul_right _ hroom
      have hr := run_append_room (P := P) w t ty e i ht hi g n cap cur hg a m c news hl hnews h1 hroom hfit
      rw [r1] at hr
      injection hr with e1 e2
      subst e1
      exact .inl rfl
    · have holds : ∀ j u, xs[j]? = some u → w.cell? ((⟨g, 0, none⟩ : Addr).add j) = some u := hown.cells (g := g) rfl
      have hr := run_append_grow (P := P) w t ty e i z ht hi hz ⟨g, 0, none⟩ n cap xs hown.1 holds a m c news hl hnews (by omega) (by omega) (growslice_fits (by omega) hbytes)
      rw [r1] at hr
      injection hr with e1 e2
      subst e1
      exact .inr ⟨_, rfl, Nat.le_refl _⟩
def MapW {κ : Type} (w : World) (base : Nat) (k : TypeId) (enc : κ → Value) (b : Nat) (H : κ → Option (List Int)) : Prop :=
  ∃ F, OwnM w Tryz.prog k enc b F ∧ (∀ x, (F x = none ∧ H x = none) ∨ ∃ v L, F x = some v ∧ H x = some L ∧ w.ownsRow base 3 1 v L.length (cellsI L)) ∧ ∀ x y v u g, x ≠ y → F x = some v → F y = some u → v.ownBlock = some g → u.ownBlock ≠ some g
theorem MapW.on {κ : Type} {w w' : World} {base : Nat} {k : TypeId} {enc : κ → Value} {b : Nat} {H : κ → Option (List Int)} (h : MapW w base k enc b H) (hb : w'.heap[b]? = w.heap[b]?) (hk : Kt 3 w w') : MapW w' base k enc b H := by
  obtain ⟨F, h1, h2, h3⟩ := h
  refine ⟨F, h1.of_block hb, fun x => ?_, h3⟩
  rcases h2 x with h | ⟨v, L, e1, e2, hh⟩
  · exact .inl h
  · exact .inr ⟨v, L, e1, e2, own_kt hh hk⟩
end Go.Proofs.YtifhigajonafdaaGreat

/-
  One more id in the row of a key, by lookup and store, or by its entry; what stays then.
-/
namespace Go.Proofs.YtifhigajonafdaaGreat
open Go.RowKit
open Go.Maps (Keyed)
set_option linter.unusedVariables false
set_option linter.unusedSimpArgs false

structure Bx (B : Nat) (l : List Nat) (w w' : World) : Prop where
  os : w'.os = w.os
  tape : w'.tape = w.tape
  output : w'.output = w.output
  size : w.heap.size ≤ w'.heap.size
  block : ∀ k, k < B → k ∉ l → w'.heap[k]? = w.heap[k]?
theorem Bx.refl (B : Nat) (l : List Nat) (w : World) : Bx B l w w := ⟨rfl, rfl, rfl, Nat.le_refl _, fun _ _ _ => rfl⟩
theorem Bx.trans {B : Nat} {l : List Nat} {a b c : World} (h : Bx B l a b) (k : Bx B l b c) : Bx B l a c :=
  ⟨k.os.trans h.os, k.tape.trans h.tape, k.output.trans h.output, Nat.le_trans h.size k.size, fun i hi hn => (k.block i hi hn).trans (h.block i hi hn)⟩
theorem Bx.of_below {B B' : Nat} {l : List Nat} {w w' : World} (h : Below B' w w') (hB : B ≤ B') : Bx B l w w' := ⟨h.os, h.tape, h.output, h.size, fun k hk _ => h.block k (Nat.lt_of_lt_of_le hk hB)⟩
theorem Bx.of_grown {B : Nat} {l : List Nat} {w w' : World} {r : Option Nat} (h : w.grownBy w' r) (hB : B ≤ w.heap.size) (hr : ∀ g, r = some g → g ∈ l ∨ B ≤ g) : Bx B l w w' :=
  ⟨h.os, h.tape, h.output, h.size, fun k hk hn => h.block k (Nat.lt_of_lt_of_le hk hB) (fun e => by
    rcases hr k e.symm with h1 | h1
    · exact hn h1
    · omega)⟩
theorem Bx.sub {B : Nat} {l l' : List Nat} {w w' : World} (h : Bx B l w w') (hs : ∀ x ∈ l, x ∈ l') : Bx B l' w w' := ⟨h.os, h.tape, h.output, h.size, fun k hk hn => h.block k hk (fun hx => hn (hs k hx))⟩
theorem Bx.below {B B' : Nat} {l : List Nat} {w w' : World} (h : Bx B l w w') (hB : B' ≤ B) (hl : ∀ x ∈ l, B' ≤ x) : Below B' w w' := ⟨h.os, h.tape, h.output, h.size, fun k hk => h.block k (Nat.lt_of_lt_of_le hk hB) (fun hx => by have := hl k hx; omega)⟩

theorem mapW_app {κ : Type} [DecidableEq κ] {W : World} {base : Nat} {k : TypeId} {enc : κ → Value} {b : Nat} {H : κ → Option (List Int)} (h : MapW W base k enc b H) (K : Keyed Tryz.prog k) (hinj : ∀ x y, enc x = enc y → x = y) {t : TypeId} (ht : Tryz.prog.underlying t = some (.map k 42)) {x : κ} {l : Lit} (hk : keyOf Tryz.prog k (enc x) = some l) {g0 c : Nat} {id : Int} (ha : W.cell? ⟨g0, 0, none⟩ = some (.int .i64 id)) (hlen : ((H x).getD []).length ≤ 1000000) (hbase : base ≤ W.heap.size) :
    ∃ v v' w2 w3, (∀ W', W'.heap[b]? = W.heap[b]? → (Instr.lookup t (.map (some b)) (enc x) false).run Tryz.prog W' = .ok v W') ∧ (∃ a n c, v = .slice a n c) ∧ (∃ a n c, v' = .slice a n c) ∧ (∀ ty, (Builtin.append_ #[42, 42] ty #[v, .slice (some ⟨g0, 0, none⟩) 1 c]).run Tryz.prog W = .ok v' w2) ∧ (Instr.mapUpdate t (.map (some b)) (enc x) v').run Tryz.prog w2 = .ok () w3 ∧
      MapW w3 base k enc b (upd H x ((H x).getD [] ++ [id])) ∧ (∀ s, s ≠ 3 → Kt s W w2 ∧ Kt s W w3) ∧ Bx base [b] W w2 ∧ Bx base [b] W w3 := by
  obtain ⟨F, h1, h2, h3⟩ := h
  obtain ⟨i0, hi, hz0, hz1, hz2⟩ := info_parts infoInt
  have hl := fun W' (hW : W'.heap[b]? = W.heap[b]?) => (h1.of_block hW).look K hinj ht (zero60 W') hk false
  obtain ⟨v, hv⟩ : ∃ v, v = (F x).getD (.slice none 0 0) := ⟨_, rfl⟩
  have hown : W.ownsRow base 3 1 v ((H x).getD []).length (cellsI ((H x).getD [])) := by
    rcases h2 x with ⟨e1, e2⟩ | ⟨u, L, e1, e2, hh⟩
    · rw [hv, e1, e2]; exact World.ownsRow_nil _ _ _ _
    · rw [hv, e1, e2]; exact hh
  have hfx : ∀ g, v.ownBlock = some g → F x = some v := by
    intro g hg
    rcases h2 x with ⟨e1, e2⟩ | ⟨u, L, e1, e2, hh⟩
    · rw [hv, e1] at hg; cases hg
    · rw [hv, e1]; rfl
  obtain ⟨v', w2, r1, r2, r3, r4, r5⟩ := append_at (P := Tryz.prog) W base 42 0 3 i0 _ 1 8 Tryz.underlying42 hi hz0 hz1 hz2 rfl (by decide) v _ _ hown ⟨g0, 0, none⟩ 1 c (by omega) [.int .i64 id] rfl (by
    intro j u hj
    cases j with
    | zero => simp at hj; subst hj; rw [Addr.add_lit]; exact ha
    | succ j => simp at hj) (by intro u hu; simp at hu; subst hu; rfl) (by unfold maxLen; omega) (by omega) hbase
  have hbv : v.ownBlock ≠ some b := by
    intro e
    obtain ⟨es, clk, hm, _⟩ := h1
    rcases hown.2 with ⟨e0, _⟩ | ⟨g, cap, cur, e0, _, hg, _⟩
    · rw [e0] at e; cases e
    · rw [e0] at e
      injection e with e
      simp only at e
      subst e
      rw [hm] at hg
      cases hg
  have h1' : OwnM w2 Tryz.prog k enc b F := h1.of_block (r3.block b h1.lt (fun e => hbv e.symm))
  obtain ⟨w3, p1, p2, p3⟩ := h1'.put K hinj ht hk v'
  have hT3 : Kt 3 w2 w3 := Kt.of_map h1' p3
  have hB2 : Bx base [b] W w2 := Bx.of_grown r3 hbase (fun g hg => .inr (hown.lt g hg).1)
  have hB3 : Bx base [b] W w3 := hB2.trans (Bx.of_grown p3 (Nat.le_trans hbase r3.size) (fun g hg => by injection hg with hg; subst hg; exact .inl (by simp)))
  obtain ⟨a5, c5, e5⟩ := own_slice hown
  obtain ⟨a6, c6, e6⟩ := own_slice r2
  refine ⟨v, v', w2, w3, fun W' hW => by rw [hv]; exact hl W' hW, ⟨_, _, _, e5⟩, ⟨_, _, _, e6⟩, fun ty => r1, p1, ⟨_, p2, fun y => ?_, ?_⟩, fun s hs => ⟨.of_own hown (fun e => hs e.symm) r3, (Kt.of_own hown (fun e => hs e.symm) r3).trans (Kt.of_map h1' p3)⟩, hB2, hB3⟩
  · unfold upd
    split
    · refine .inr ⟨v', _, rfl, rfl, ?_⟩
      have := own_kt r2 hT3
      simpa [cellsI] using this
    · rename_i hne
      rcases h2 y with e | ⟨u, L, e1, e2, hh⟩
      · exact .inl e
      · refine .inr ⟨u, L, e1, e2, own_kt (hh.kept r3 ?_) hT3⟩
        by_cases hn : u.ownBlock = none
        · exact .inl hn
        · right
          intro e
          cases hg : u.ownBlock with
          | none => exact hn hg
          | some g =>
            rw [hg] at e
            exact h3 x y v u g (fun e' => hne e'.symm) (hfx g e.symm) e1 e.symm hg
  · intro y z u q g hyz hu hq hg hqg
    unfold upd at hu hq
    have key : ∀ (y : κ) (u : Value), y ≠ x → F y = some u → v'.ownBlock = some g → u.ownBlock = some g → False := by
      intro y u hne hu hg hug
      rcases r4 with e | ⟨g', e, hge⟩
      · rw [hg] at e
        exact h3 x y v u g (fun e' => hne e'.symm) (hfx g e.symm) hu e.symm hug
      · rw [hg] at e
        injection e with e
        subst e
        rcases h2 y with ⟨e1, _⟩ | ⟨u', L, e1, _, hh⟩
        · rw [e1] at hu; cases hu
        · rw [e1] at hu
          injection hu with hu
          subst hu
          have := (hh.lt g hug).2
          omega
    split at hu
    · rename_i hyx
      injection hu with hu
      subst hu
      rw [if_neg (fun e => hyz (hyx.trans e.symm))] at hq
      exact key z q (fun e => hyz (hyx.trans e.symm)) hq hg hqg
    · rename_i hyx
      split at hq
      · injection hq with hq
        subst hq
        exact key y u hyx hu hqg hg
      · exact h3 y z u q g hyz hu hq hg hqg
theorem mapW_ent {κ : Type} [DecidableEq κ] {W : World} {base : Nat} {k : TypeId} {enc : κ → Value} {b : Nat} {H : κ → Option (List Int)} (h : MapW W base k enc b H) (K : Keyed Tryz.prog k) (hinj : ∀ x y, enc x = enc y → x = y) {t : TypeId} (ht : Tryz.prog.underlying t = some (.map k 42)) {x : κ} {l : Lit} (hk : keyOf Tryz.prog k (enc x) = some l) {g0 c : Nat} {id : Int} (ha : W.cell? ⟨g0, 0, none⟩ = some (.int .i64 id)) (hlen : ((H x).getD []).length ≤ 1000000) (hbase : base ≤ W.heap.size) :
    ∃ v v' w1 w2 w3 n, (∃ a n c, v = .slice a n c) ∧ (∃ a n c, v' = .slice a n c) ∧ (Instr.mapEntry t (.map (some b)) (enc x)).run Tryz.prog W = .ok (.tuple #[v, goInt n]) w1 ∧ (∀ ty, (Builtin.append_ #[42, 42] ty #[v, .slice (some ⟨g0, 0, none⟩) 1 c]).run Tryz.prog w1 = .ok v' w2) ∧ (Instr.entryStore t (.map (some b)) (goInt n) v').run Tryz.prog w2 = .ok () w3 ∧
      MapW w3 base k enc b (upd H x ((H x).getD [] ++ [id])) ∧ (∀ s, s ≠ 3 → Kt s W w1 ∧ Kt s W w2 ∧ Kt s W w3) ∧ Bx base [b] W w1 ∧ Bx base [b] W w2 ∧ Bx base [b] W w3 := by
  obtain ⟨F, h1, h2, h3⟩ := h
  obtain ⟨i0, hi, hz0, hz1, hz2⟩ := info_parts infoInt
  obtain ⟨w1, n, q1, q2, q3⟩ := h1.entry K hinj ht (zero60 W) hk
  have hT1 : Kt 3 W w1 := Kt.of_map h1 q3
  have hB1 : Bx base [b] W w1 := Bx.of_grown q3 hbase (fun g hg => by injection hg with hg; subst hg; exact .inl (by simp))
  obtain ⟨v, hv⟩ : ∃ v, v = (F x).getD (.slice none 0 0) := ⟨_, rfl⟩
  have hown : W.ownsRow base 3 1 v ((H x).getD []).length (cellsI ((H x).getD [])) := by
    rcases h2 x with ⟨e1, e2⟩ | ⟨u, L, e1, e2, hh⟩
    · rw [hv, e1, e2]; exact World.ownsRow_nil _ _ _ _
    · rw [hv, e1, e2]; exact hh
  have hfx : ∀ g, v.ownBlock = some g → F x = some v := by
    intro g hg
    rcases h2 x with ⟨e1, e2⟩ | ⟨u, L, e1, e2, hh⟩
    · rw [hv, e1] at hg; cases hg
    · rw [hv, e1]; rfl
  have hown1 := own_kt hown hT1
  have ha1 : w1.cell? ⟨g0, 0, none⟩ = some (.int .i64 id) := (but_map h1 q3).2 _ _ ha
  obtain ⟨v', w2, r1, r2, r3, r4, r5⟩ := append_at (P := Tryz.prog) w1 base 42 0 3 i0 _ 1 8 Tryz.underlying42 hi hz0 hz1 hz2 rfl (by decide) v _ _ hown1 ⟨g0, 0, none⟩ 1 c (by omega) [.int .i64 id] rfl (by
    intro j u hj
    cases j with
    | zero => simp at hj; subst hj; rw [Addr.add_lit]; exact ha1
    | succ j => simp at hj) (by intro u hu; simp at hu; subst hu; rfl) (by unfold maxLen; omega) (by omega) (Nat.le_trans hbase q3.size)
  have hbv : v.ownBlock ≠ some b := by
    intro e
    obtain ⟨es, clk, hm, _⟩ := h1
    rcases hown.2 with ⟨e0, _⟩ | ⟨g, cap, cur, e0, _, hg, _⟩
    · rw [e0] at e; cases e
    · rw [e0] at e
      injection e with e
      simp only at e
      subst e
      rw [hm] at hg
      cases hg
  have h1' : OwnE w2 Tryz.prog k enc b (upd F x ((F x).getD (.slice none 0 0))) x n := q2.of_block (r3.block b q2.m.lt (fun e => hbv e.symm))
  obtain ⟨w3, p1, p2, p3⟩ := h1'.store hinj t v'
  have hup : upd (upd F x ((F x).getD (.slice none 0 0))) x v' = upd F x v' := by
    funext y; unfold upd; split <;> rfl
  rw [hup] at p2
  have hT3 : Kt 3 w2 w3 := Kt.of_map h1'.m p3
  have hB2 : Bx base [b] W w2 := hB1.trans (Bx.of_grown r3 (Nat.le_trans hbase q3.size) (fun g hg => .inr (hown.lt g hg).1))
  have hB3 : Bx base [b] W w3 := hB2.trans (Bx.of_grown p3 (Nat.le_trans (Nat.le_trans hbase q3.size) r3.size) (fun g hg => by injection hg with hg; subst hg; exact .inl (by simp)))
  have hKs : ∀ s, s ≠ 3 → Kt s W w1 ∧ Kt s W w2 ∧ Kt s W w3 := fun s hs => by
    have k1 : Kt s W w1 := Kt.of_map h1 q3
    have k2 : Kt s W w2 := k1.trans (.of_own hown1 (fun e => hs e.symm) r3)
    exact ⟨k1, k2, k2.trans (Kt.of_map h1'.m p3)⟩
  obtain ⟨a5, c5, e5⟩ := own_slice hown
  obtain ⟨a6, c6, e6⟩ := own_slice r2
  refine ⟨v, v', w1, w2, w3, n, ⟨_, _, _, e5⟩, ⟨_, _, _, e6⟩, by rw [hv]; exact q1, fun ty => r1, p1, ⟨_, p2, fun y => ?_, ?_⟩, hKs, hB1, hB2, hB3⟩
  · unfold upd
    split
    · refine .inr ⟨v', _, rfl, rfl, ?_⟩
      have := own_kt r2 hT3
      simpa [cellsI] using this
    · rename_i hne
      rcases h2 y with e | ⟨u, L, e1, e2, hh⟩
      · exact .inl e
      · refine .inr ⟨u, L, e1, e2, own_kt ((own_kt hh hT1).kept r3 ?_) hT3⟩
        by_cases hn : u.ownBlock = none
        · exact .inl hn
        · right
          intro e
          cases hg : u.ownBlock with
          | none => exact hn hg
          | some g =>
            rw [hg] at e
            exact h3 x y v u g (fun e' => hne e'.symm) (hfx g e.symm) e1 e.symm hg
  · intro y z u q g hyz hu hq hg hqg
    unfold upd at hu hq
    have key : ∀ (y : κ) (u : Value), y ≠ x → F y = some u → v'.ownBlock = some g → u.ownBlock = some g → False := by
      intro y u hne hu hg hug
      rcases r4 with e | ⟨g', e, hge⟩
      · rw [hg] at e
        exact h3 x y v u g (fun e' => hne e'.symm) (hfx g e.symm) hu e.symm hug
      · rw [hg] at e
        injection e with e
        subst e
        rcases h2 y with ⟨e1, _⟩ | ⟨u', L, e1, _, hh⟩
        · rw [e1] at hu; cases hu
        · rw [e1] at hu
          injection hu with hu
          subst hu
          have := (hh.lt g hug).2
          have := q3.size
          omega
    split at hu
    · rename_i hyx
      injection hu with hu
      subst hu
      rw [if_neg (fun e => hyz (hyx.trans e.symm))] at hq
      exact key z q (fun e => hyz (hyx.trans e.symm)) hq hg hqg
    · rename_i hyx
      split at hq
      · injection hq with hq
        subst hq
        exact key y u hyx hu hqg hg
      · exact h3 y z u q g hyz hu hq hg hqg
end Go.Proofs.YtifhigajonafdaaGreat

/-
  What index.tablesOf makes, in plain functions; what its loops keep.
-/
namespace Go.Proofs.YtifhigajonafdaaGreat
open Go.RowKit
open Go.Maps (Keyed)
set_option linter.unusedVariables false
set_option linter.unusedSimpArgs false

abbrev TK := (ByteArray → Option (List Int)) × (KeyJ → Option Int)
def knO (H : ByteArray → Option Hp) (x : ByteArray) : List Nm := ((H x).map Hp.kn).getD []
def ksO (H : ByteArray → Option Hp) (x : ByteArray) : List Nm := ((H x).map Hp.ks).getD []
def rowA {κ : Type} [DecidableEq κ] (E : κ → Option (List Int)) (x : κ) (i : Int) : κ → Option (List Int) := upd E x ((E x).getD [] ++ [i])
def kinS (H : ByteArray → Option Hp) (n : Nd) (S : TK) (a : Nm) : TK := (rowA S.1 (bs a) n.id, noteF (bs a) (ksO H (bs a)) n.id S.2 n.rc)
def ndS (H : ByteArray → Option Hp) (S : TK) (n : Nd) : TK := (knO H n.kd).foldl (kinS H n) S
def tabK (H : ByteArray → Option Hp) (N : List Nd) : TK := N.foldl (ndS H) (fun _ => none, fun _ => none)
def enS (E : EndJ → Option (List Int)) (t : Te) : EndJ → Option (List Int) := rowA (rowA E (t.bd, t.fr, false) t.tt) (t.bd, t.tt, true) t.fr
def tabE (T : List Te) : EndJ → Option (List Int) := T.foldl enS (fun _ => none)
theorem rowA_len {κ : Type} [DecidableEq κ] {E : κ → Option (List Int)} {c : Nat} (h : ∀ x, ((E x).getD []).length ≤ c) (x : κ) (i : Int) : ∀ y, ((rowA E x i y).getD []).length ≤ c + 1 := by
  intro y
  unfold rowA upd
  split
  · have := h x; simp; omega
  · have := h y; omega

theorem MapHp.look2 {w : World} {base b : Nat} {H : ByteArray → Option Hp} (h : MapHp w base b H) {x : ByteArray} {l : Lit} (hk : keyOf Tryz.prog 9 (encS x) = some l) :
    ∃ a n c a' n' c', IsS w (.slice a n c) (knO H x) ∧ IsS w (.slice a' n' c') (ksO H x) ∧ ∀ W, W.heap[b]? = w.heap[b]? → (Instr.lookup 96 (.map (some b)) (.string x) false).run Tryz.prog W = .ok (.agg #[.slice a n c, .slice a' n' c']) W := by
  obtain ⟨F, h1, h2⟩ := h
  have hm := fun W (hW : W.heap[b]? = w.heap[b]?) => (h1.of_block hW).look keyedS encS_inj Tryz.underlying96 (zero90 W) hk false
  unfold knO ksO
  rcases h2 x with ⟨e1, e2⟩ | ⟨v, p, e1, e2, hh⟩
  · rw [e1] at hm
    rw [e2]
    exact ⟨none, 0, 0, none, 0, 0, .inl ⟨none, 0, rfl, rfl, Nat.zero_le _, fun _ => rfl⟩, .inl ⟨none, 0, rfl, rfl, Nat.zero_le _, fun _ => rfl⟩, hm⟩
  · rw [e1] at hm
    rw [e2]
    obtain ⟨vk, vs, rfl, o1, o2⟩ := hh
    obtain ⟨a1, c1, rfl⟩ := own_slice o1
    obtain ⟨a2, c2, rfl⟩ := own_slice o2
    exact ⟨_, _, _, _, _, _, own_isS o1, own_isS o2, hm⟩
theorem IsS.at {w : World} {v : Value} {l : List Nm} (h : IsS w v l) {k : Nat} {n : Nm} (hn : l[k]? = some n) : ∃ b off c, v = .slice (some ⟨b, off, none⟩) l.length c ∧ b < w.heap.size ∧ w.cell? ⟨b, off + k, none⟩ = some (.string (bs n)) := by
  rcases h with ⟨a, c, _, rfl, _⟩ | ⟨b, off, c, rfl, _, _, hb, hL⟩
  · simp at hn
  · exact ⟨b, off, c, rfl, hb, hL k n hn⟩
theorem Kt.of_bx {t : TypeId} {l : List Nat} {W w' : World} (h : Bx W.heap.size l W w') (hl : ∀ x ∈ l, ∃ es c, W.heap[x]? = some (.map es c)) : Kt t W w' := by
  refine ⟨h.size, fun b cs hb => ?_⟩
  refine (h.block b (Array.getElem?_eq_some_iff.1 hb).1 (fun hx => ?_)).trans hb
  obtain ⟨es, c, hm⟩ := hl b hx
  rw [hm] at hb
  cases hb
theorem OwnM.is_map {κ : Type} {w : World} {P : Program} {k : TypeId} {enc : κ → Value} {b : Nat} {F : κ → Option Value} (h : OwnM w P k enc b F) : ∃ es c, w.heap[b]? = some (.map es c) := by
  obtain ⟨es, c, hm, _⟩ := h
  exact ⟨es, c, hm⟩

def TI (W6 : World) (m1 m2 c : Nat) (S : TK) (wr : World) : Prop := MapW wr W6.heap.size 9 encS m1 S.1 ∧ MapJ wr m2 S.2 ∧ Bx W6.heap.size [m1, m2] W6 wr ∧ ∀ x, ((S.1 x).getD []).length ≤ c
theorem TI.on {W6 : World} {m1 m2 c : Nat} {S : TK} {wr w' : World} (h : TI W6 m1 m2 c S wr) (hB : Below wr.heap.size wr w') : TI W6 m1 m2 c S w' := by
  obtain ⟨h1, h2, h3, h4⟩ := h
  have hw1 := h1
  obtain ⟨F, q1, _⟩ := hw1
  exact ⟨h1.on (hB.block m1 q1.lt) (.of_below hB), OwnM.of_block h2 (hB.block m2 (OwnM.lt h2)), h3.trans (.of_below hB h3.size), h4⟩
theorem TI.le {W6 : World} {m1 m2 c c' : Nat} {S : TK} {wr : World} (h : TI W6 m1 m2 c S wr) (hc : c ≤ c') : TI W6 m1 m2 c' S wr := ⟨h.1, h.2.1, h.2.2.1, fun x => Nat.le_trans (h.2.2.2 x) hc⟩

abbrev idW (W : World) (id : Int) : World := (W.alloc (.cells #[.int .i64 id] 3)).drew
theorem ti_app {W6 W : World} {m1 m2 c : Nat} {S : TK} (h : TI W6 m1 m2 c S W) (hne : m1 ≠ m2) (hm2 : m2 < W6.heap.size) (hc : c ≤ 900000) {x : ByteArray} (hx : x.size ≤ maxLen) (id : Int) :
    ∃ a n k a' n' k' w2 w3, (Instr.lookup 98 (.map (some m1)) (.string x) false).run Tryz.prog W.drew = .ok (.slice a n k) W.drew ∧ (Instr.lookup 98 (.map (some m1)) (.string x) false).run Tryz.prog (idW W id) = .ok (.slice a n k) (idW W id) ∧
      (∀ ty, (Builtin.append_ #[42, 42] ty #[.slice a n k, .slice (some ⟨W.heap.size, 0, none⟩) 1 1]).run Tryz.prog (idW W id) = .ok (.slice a' n' k') w2) ∧ (Instr.mapUpdate 98 (.map (some m1)) (.string x) (.slice a' n' k')).run Tryz.prog w2 = .ok () w3 ∧
      MapW w3 W6.heap.size 9 encS m1 (rowA S.1 x id) ∧ MapJ w3 m2 S.2 ∧ Bx W6.heap.size [m1, m2] W6 w2 ∧ Bx W6.heap.size [m1, m2] W6 w3 ∧ ∀ s, s ≠ 3 → Kt s W w2 ∧ Kt s W w3 := by
  obtain ⟨h1, h2, h3, h4⟩ := h
  have hB : Below W.heap.size W (idW W id) := b_drew (b_alloc (Below.refl _ _) _)
  have hw1 := h1
  obtain ⟨F, q1, _⟩ := hw1
  have hm1 := hB.block m1 q1.lt
  have h1' : MapW (idW W id) W6.heap.size 9 encS m1 S.1 := h1.on hm1 (.of_below hB)
  obtain ⟨l, hl⟩ := keyS hx
  have hnew : (idW W id).heap[W.heap.size]? = some (.cells #[.int .i64 id] 3 (0, 0)) := heap_alloc_new W (.cells #[.int .i64 id] 3)
  obtain ⟨v, v', w2, w3, r1, ⟨a, n, k, rfl⟩, ⟨a', n', k', rfl⟩, r2, r3, r4, r5, r6, r7⟩ := mapW_app h1' keyedS encS_inj Tryz.underlying98 hl (g0 := W.heap.size) (c := 1) (id := id) (cell_at hnew rfl) (by have := h4 x; omega) (Nat.le_trans h3.size hB.size)
  have hbx : Bx W6.heap.size [m1, m2] W6 (idW W id) := h3.trans (.of_below hB h3.size)
  have hsub : ∀ y ∈ [m1], y ∈ [m1, m2] := fun y hy => by simp at hy ⊢; exact .inl hy
  have hKt : ∀ s, s ≠ 3 → Kt s W w2 ∧ Kt s W w3 := fun s hs => ⟨(Kt.of_below hB).trans (r5 s hs).1, (Kt.of_below hB).trans (r5 s hs).2⟩
  refine ⟨a, n, k, a', n', k', w2, w3, r1 W.drew (by rw [hm1]; rfl), r1 _ rfl, r2, r3, r4, ?_, hbx.trans (r6.sub hsub), hbx.trans (r7.sub hsub), hKt⟩
  have hJ : MapJ (idW W id) m2 S.2 := OwnM.of_block h2 (hB.block m2 (OwnM.lt h2))
  exact OwnM.of_block hJ (r7.block m2 hm2 (by simp; exact fun e => hne e.symm))
theorem ti_note {W6 w3 w4 : World} {m1 m2 c : Nat} {K : ByteArray → Option (List Int)} {G G' : KeyJ → Option Int} (hne : m1 ≠ m2) (h1 : MapW w3 W6.heap.size 9 encS m1 K) (h2 : MapJ w3 m2 G) (h3 : Bx W6.heap.size [m1, m2] W6 w3) (h4 : MapJ w4 m2 G') (hg : w3.grownBy w4 (some m2)) (hl : ∀ x, ((K x).getD []).length ≤ c) : TI W6 m1 m2 c (K, G') w4 := by
  have hw1 := h1
  obtain ⟨F, q1, _⟩ := hw1
  exact ⟨h1.on (hg.block m1 q1.lt (by simp; exact hne)) (Kt.of_map h2 hg), h4, h3.trans (.of_grown hg h3.size (fun g hg' => by injection hg' with hg'; subst hg'; exact .inl (by simp))), hl⟩
def TEn (W7 : World) (m3 c : Nat) (E : EndJ → Option (List Int)) (wr : World) : Prop := MapW wr W7.heap.size 166 encD m3 E ∧ Bx W7.heap.size [m3] W7 wr ∧ ∀ x, ((E x).getD []).length ≤ c
theorem TEn.on {W7 : World} {m3 c : Nat} {E : EndJ → Option (List Int)} {wr w' : World} (h : TEn W7 m3 c E wr) (hB : Below wr.heap.size wr w') : TEn W7 m3 c E w' := by
  obtain ⟨h1, h3, h4⟩ := h
  have hw1 := h1
  obtain ⟨F, q1, _⟩ := hw1
  exact ⟨h1.on (hB.block m3 q1.lt) (.of_below hB), h3.trans (.of_below hB h3.size), h4⟩
theorem TEn.le {W7 : World} {m3 c c' : Nat} {E : EndJ → Option (List Int)} {wr : World} (h : TEn W7 m3 c E wr) (hc : c ≤ c') : TEn W7 m3 c' E wr := ⟨h.1, h.2.1, fun x => Nat.le_trans (h.2.2 x) hc⟩
theorem te_app {W7 W : World} {m3 c : Nat} {E : EndJ → Option (List Int)} (h : TEn W7 m3 c E W) (hc : c ≤ 900000) {x : EndJ} (hx : x.1.size ≤ maxLen) (hn : in64 x.2.1) (i : Int) :
    ∃ a n k a' n' k' w1 w2 w3 q, (Instr.mapEntry 100 (.map (some m3)) (.agg #[.string x.1, .int .i64 x.2.1, .bool x.2.2])).run Tryz.prog (W.alloc (.cells #[.int .i64 i] 3)) = .ok (.tuple #[.slice a n k, .int .i64 q]) w1 ∧
      (∀ ty, (Builtin.append_ #[42, 42] ty #[.slice a n k, .slice (some ⟨W.heap.size, 0, none⟩) 1 1]).run Tryz.prog w1 = .ok (.slice a' n' k') w2) ∧ (Instr.entryStore 100 (.map (some m3)) (.int .i64 q) (.slice a' n' k')).run Tryz.prog w2 = .ok () w3 ∧
      TEn W7 m3 (c + 1) (rowA E x i) w3 ∧ ∀ s, s ≠ 3 → Kt s W w3 := by
  have hB : Below W.heap.size W (W.alloc (.cells #[.int .i64 i] 3)) := b_alloc (Below.refl _ _) _
  obtain ⟨h1', h3', h4⟩ := h.on hB
  obtain ⟨l, hl⟩ := keyD hx hn
  have hnew := heap_alloc_new W (.cells #[.int .i64 i] 3)
  obtain ⟨v, v', w1, w2, w3, q, ⟨a, n, k, rfl⟩, ⟨a', n', k', rfl⟩, r1, r2, r3, r4, r5, r6, r7, r8⟩ := mapW_ent h1' keyedD encD_inj Tryz.underlying100 hl (g0 := W.heap.size) (c := 1) (id := i) (cell_at hnew rfl) (by have := h4 x; omega) h3'.size
  exact ⟨a, n, k, a', n', k', w1, w2, w3, q, r1, r2, r3, ⟨r4, h3'.trans r8, rowA_len h4 x i⟩, fun s hs => (Kt.of_below hB).trans (r5 s hs).2.2⟩
end Go.Proofs.YtifhigajonafdaaGreat
