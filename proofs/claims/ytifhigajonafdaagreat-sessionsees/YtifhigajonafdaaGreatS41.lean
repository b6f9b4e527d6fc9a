/-
  The walks of late and with.
-/
import Derived.Test.YtifhigajonafdaaGreatS40
import Derived.Test.YtifhigajonafdaaGreatS32
import Derived.Test.YtifhigajonafdaaGreatS23
import Derived.Test.YtifhigajonafdaaGreatS38
import Derived.Laws.ResultCell
import Derived.Deep.RegionHeld
namespace Go.Proofs.YtifhigajonafdaaGreat
open Go.RowKit Go.Maps
set_option linter.unusedVariables false
set_option linter.unusedSimpArgs false

theorem zeroU (w : World) : (zeroValue 111).run Tryz.prog w = .ok (.agg #[]) w := by kernel_rfl
theorem setI_look {w : World} {m n : Nat} {X : List Int} (h : SetI w m n X) {x : Int} (hx : in64 x) : (Instr.lookup 76 (.map (some m)) (.int .i64 x) true).run Tryz.prog w = .ok (.tuple #[.agg #[], .bool (decide (x ∈ X))]) w := by
  obtain ⟨D, h1, _, h3⟩ := h
  obtain ⟨v, ps, hr, hv⟩ := h1.look_ok keyedI Tryz.underlying76 (zeroU w) (zd := .agg []) (zp := []) unitElem_mk (Go.Maps.keyOf_int_mk Tryz.underlying3 hx)
  obtain ⟨rfl, _⟩ := unitElem_inv hv
  rw [hr]
  have : has D (.int .i64 x) = decide (x ∈ X) := by
    by_cases hm : x ∈ X
    · rw [(h3 x).2 hm]; simp [hm]
    · cases e : has D (.int .i64 x) with
      | false => simp [hm]
      | true => exact absurd ((h3 x).1 e) hm
  rw [this]
set_option maxHeartbeats 1000000 in
theorem late1_any {w : World} {b q m n : Nat} {X : List Int} {c0 c1 c2 c3 c4 : Value} {id : Int} (hb : w.cell? ⟨b, 0, none⟩ = some (.pointer (some ⟨q, 0, none⟩))) (hq : w.heap[q]? = some (.cells #[c0, c1, c2, c3, c4, .map (some m)] 78 (0, 0))) (hS : SetI w m n X) (hi : in64 id) :
    Calls Tryz.prog 39 #[.int .i64 id, .pointer (some ⟨b, 0, none⟩)] w fun e w' => e = .returned (.bool (decide (id ∈ X))) ∧ Below w.heap.size w w' := by
  have hl := setI_look hS hi
  have y0 : w.cell? ⟨q, 5, none⟩ = some (.map (some m)) := cell_at hq rfl
  generalize decide (id ∈ X) = r at hl ⊢
  clear hS hi hq
  go_enter Tryz.func39, Tryz.ntmps39
  go_wp2
  go_ret
  exact ⟨rfl, b_alloc (Below.refl _ _) _⟩
def idxI (X : List Int) : List Int → Nat → Int
  | [], _ => -1
  | x :: r, k => if x ∈ X then (k : Int) else idxI X r (k + 1)
theorem idxI_any (X : List Int) : ∀ (L : List Int) (k : Nat), decide (0 ≤ idxI X L k) = L.any fun x => decide (x ∈ X)
  | [], k => by simp [idxI]
  | x :: r, k => by
    unfold idxI
    by_cases h : x ∈ X
    · rw [if_pos h]; simp [h]
    · rw [if_neg h, idxI_any X r (k + 1)]; simp [h]
set_option maxHeartbeats 4000000 in
set_option maxRecDepth 100000 in
theorem idxI_some (g cap : Nat) (L : List Int) {w : World} {b q m n : Nat} {X : List Int} {c0 c1 c2 c3 c4 : Value} (hg : g < w.heap.size) (hL : ∀ k x, L[k]? = some x → w.cell? ⟨g, k, none⟩ = some (.int .i64 x)) (hn : L.length ≤ 5000) (h64 : ∀ x ∈ L, in64 x) (hb : w.cell? ⟨b, 0, none⟩ = some (.pointer (some ⟨q, 0, none⟩))) (hbl : b < w.heap.size) (hq : w.heap[q]? = some (.cells #[c0, c1, c2, c3, c4, .map (some m)] 78 (0, 0))) (hS : SetI w m n X) :
    Calls Tryz.prog 54 #[.slice (some ⟨g, 0, none⟩) L.length cap, .func (.func 39) #[] #[.pointer (some ⟨b, 0, none⟩)]] w fun e w' => e = .returned (.int .i64 (idxI X L 0)) ∧ Below w.heap.size w w' := by
  have HS : Hid (SetI w m n X ∧ w.heap[q]? = some (.cells #[c0, c1, c2, c3, c4, .map (some m)] 78 (0, 0)) ∧ ∀ x ∈ L, in64 x) := ⟨hS, hq, h64⟩
  have hqlt := (Array.getElem?_eq_some_iff.1 hq).1
  have hmlt := hS.lt
  clear hS hq h64
  go_enter Tryz.func54, Tryz.ntmps54
  go_wp2
  go_loopw [8] (fun i wr => ∃ k : Nat, k ≤ L.length ∧ i = .int .i64 k ∧ idxI X L 0 = idxI X (L.drop k) k ∧ Below w.heap.size w wr) (fun i _ => L.length - (intOf i).toNat)
  case atStart => exact ⟨0, Nat.zero_le _, rfl, rfl, Below.refl _ _⟩
  case round =>
    obtain ⟨k, hk, rfl, hi, hB⟩ := hrel
    have HI : Hid (idxI X L 0 = idxI X (L.drop k) k) := hi
    clear hi
    by_cases hlt : k < L.length
    · obtain ⟨p, hp⟩ : ∃ p, L[k]? = some p := ⟨L[k], by simp [hlt]⟩
      have d0 := (hB.cell (p := ⟨g, k, none⟩) hg).trans (hL k p hp)
      have HD : Hid (L.drop k = p :: L.drop (k + 1)) := by
        obtain ⟨hl, e⟩ := List.getElem?_eq_some_iff.1 hp
        show _ = _
        rw [List.drop_eq_getElem_cons hl, e]
      have cn := late1_any (b := b) ((hB.cell (p := ⟨b, 0, none⟩) hbl).trans hb) ((hB.block q hqlt).trans HS.out.2.1) (HS.out.1.of_block (hB.block m hmlt)) (HS.out.2.2 p (List.mem_of_getElem? hp))
      clear hp hL hb
      by_cases hq : p ∈ X
      · have H : Hid (idxI X L 0 = k) := by
          show _ = _
          rw [HI.out, HD.out]; unfold idxI; rw [if_pos hq]
        rw [decide_eq_true hq] at cn
        clear HI HD hq
        go_wp2_with (go_at_call 39; refine cn.mono ?_; rintro e w' ⟨rfl, hB2⟩)
        go_ret
        exact ⟨ret_v (by rw [H.out]; rfl), on1K hB hB2 (Nat.le_refl _)⟩
      · have H : Hid (idxI X L 0 = idxI X (L.drop (k + 1)) (k + 1)) := by
          show _ = _
          rw [HI.out, HD.out]; conv => lhs; unfold idxI
          rw [if_neg hq]
        rw [decide_eq_false hq] at cn
        clear HI HD hq
        go_wp2_with (go_at_call 39; refine cn.mono ?_; rintro e w' ⟨rfl, hB2⟩)
        go_roundw
        case rel => exact ⟨k + 1, by omega, by go_num, H.out, on1K hB hB2 (Nat.le_refl _)⟩
        case measure => simp [intOf]; omega
    · have hd : L.drop k = [] := List.drop_eq_nil_of_le (by omega)
      have H : Hid (idxI X L 0 = -1) := by
        show _ = _
        rw [HI.out, hd]; rfl
      clear HI hd hL hb
      go_wp2
      go_ret
      exact ⟨ret_v (by rw [H.out]; rfl), hB⟩
set_option maxHeartbeats 1000000 in
theorem idxI_nil (f : Value) (w : World) :
    Calls Tryz.prog 54 #[.slice none 0 0, f] w fun e w' => e = .returned (.int .i64 (-1)) ∧ Below w.heap.size w w' := by
  go_enter Tryz.func54, Tryz.ntmps54
  go_wp2
  go_loopw [8] (fun i wr => i = .int .i64 0 ∧ wr = w) (fun i _ => 0)
  case atStart => exact ⟨rfl, rfl⟩
  case round =>
    obtain ⟨rfl, rfl⟩ := hrel
    go_wp2
    go_ret
    exact ⟨rfl, Below.refl _ _⟩
set_option maxHeartbeats 1000000 in
theorem contI_any {v : Value} {L : List Int} {w : World} {b q m n : Nat} {X : List Int} {c0 c1 c2 c3 c4 : Value} (hv : IsI w v L) (hn : L.length ≤ 5000) (h64 : ∀ x ∈ L, in64 x) (hb : w.cell? ⟨b, 0, none⟩ = some (.pointer (some ⟨q, 0, none⟩))) (hbl : b < w.heap.size) (hq : w.heap[q]? = some (.cells #[c0, c1, c2, c3, c4, .map (some m)] 78 (0, 0))) (hS : SetI w m n X) :
    Calls Tryz.prog 38 #[v, .func (.func 39) #[] #[.pointer (some ⟨b, 0, none⟩)]] w fun e w' => e = .returned (.bool (L.any fun x => decide (x ∈ X))) ∧ Below w.heap.size w w' := by
  have c : Calls Tryz.prog 54 #[v, .func (.func 39) #[] #[.pointer (some ⟨b, 0, none⟩)]] w fun e w' => e = .returned (.int .i64 (idxI X L 0)) ∧ Below w.heap.size w w' := by
    rcases hv with ⟨rfl, rfl⟩ | ⟨g, cap, rfl, hle, hg, hc⟩
    · exact idxI_nil _ w
    · exact idxI_some g cap L hg hc hn h64 hb hbl hq hS
  rw [← idxI_any X L 0]
  generalize idxI X L 0 = r at c ⊢
  clear hv hn h64 hb hq hS
  go_enter Tryz.func38, Tryz.ntmps38
  go_wp2_with (go_at_call 54; refine c.mono ?_; rintro e w' ⟨rfl, hB1⟩)
  go_ret
  exact ⟨ret_v rfl, hB1⟩
set_option maxHeartbeats 1000000 in
theorem late_any {v : Value} {L : List Int} {w : World} {q m n : Nat} {X : List Int} {c0 c1 c2 c3 c4 : Value} (hv : IsI w v L) (hn : L.length ≤ 5000) (h64 : ∀ x ∈ L, in64 x) (hq : w.heap[q]? = some (.cells #[c0, c1, c2, c3, c4, .map (some m)] 78 (0, 0))) (hS : SetI w m n X) :
    Calls Tryz.prog 24 #[.pointer (some ⟨q, 0, none⟩), v] w fun e w' => e = .returned (.bool (L.any fun x => decide (x ∈ X))) ∧ Below w.heap.size w w' := by
  have hB0 : Below w.heap.size w (w.alloc (.cells #[.pointer (some ⟨q, 0, none⟩)] 75)) := b_alloc (Below.refl _ _) _
  have c := contI_any (b := w.heap.size) (hv.on hB0) hn h64 (by simp) (by simp) ((hB0.block q (Array.getElem?_eq_some_iff.1 hq).1).trans hq) (hS.of_block (hB0.block m hS.lt))
  generalize (L.any fun x => decide (x ∈ X)) = r at c ⊢
  have HB := Lib.hid hB0
  clear hv hn h64 hq hS hB0
  go_enter Tryz.func24, Tryz.ntmps24
  go_wp2_with (go_at_call 38; refine c.mono ?_; rintro e w' ⟨rfl, hB1⟩)
  go_ret
  exact ⟨rfl, on1K HB.out hB1 (Nat.le_refl _)⟩
end Go.Proofs.YtifhigajonafdaaGreat

/-
  What a schema asks hangs on what its kinds say alone.
-/
namespace Go.Proofs.YtifhigajonafdaaGreat
set_option linter.unusedVariables false
set_option linter.unusedSimpArgs false

def Kd.cz (k : Kd) : Kd := ⟨k.nm, k.of, k.fs, .nilIface, .nilIface⟩
theorem idxK_c (nm : Nm) : ∀ (L : List Kd) (i : Nat), idxK nm (L.map Kd.cz) i = idxK nm L i
  | [], _ => rfl
  | k :: r, i => by
    rw [List.map_cons, idxK, idxK, idxK_c nm r]
    rfl
theorem oChk_c (A : List Kd) : ∀ (of seen : List Nm), oChk (A.map Kd.cz) seen of = oChk A seen of
  | [], _ => rfl
  | n :: r, seen => by rw [oChk, oChk, idxK_c, oChk_c A r]
theorem back_c : ∀ (L : List Kd) (ns : List Nm), back (L.map Kd.cz) ns = (back L ns).map Kd.cz
  | [], _ => rfl
  | k :: r, ns => by
    rw [List.map_cons, back, back]
    show (if hasN ns k.nm = true then k.cz :: back (r.map Kd.cz) (ns ++ k.of) else back (r.map Kd.cz) ns) = _
    rw [back_c r, back_c r]
    split <;> rfl
theorem kinOf_c (L : List Kd) : kinOf (L.map Kd.cz) = (kinOf L).map Kd.cz := by
  unfold kinOf
  rw [List.getLast?_map]
  cases L.getLast? with
  | none => rfl
  | some k =>
    show (back (L.map Kd.cz).reverse [k.nm]).reverse = ((back L.reverse [k.nm]).reverse).map Kd.cz
    rw [← List.map_reverse, back_c, List.map_reverse]
theorem fieldsOf_c (K : List Kd) : fieldsOf (K.map Kd.cz) = fieldsOf K := by
  unfold fieldsOf
  rw [List.flatMap_map]
  rfl
theorem kErr_c (A : List Kd) (k : Kd) : kErr (A.map Kd.cz) k.cz = kErr A k := by
  have e : kinOf (A.map Kd.cz ++ [k.cz]) = (kinOf (A ++ [k])).map Kd.cz := by rw [← kinOf_c, List.map_append]; rfl
  unfold kErr
  rw [show k.cz.nm = k.nm from rfl, show k.cz.of = k.of from rfl, show k.cz.fs = k.fs from rfl, idxK_c, oChk_c, e, fieldsOf_c]
theorem ksGo_c : ∀ (L A : List Kd), ksGo (A.map Kd.cz) (L.map Kd.cz) = ksGo A L
  | [], _ => rfl
  | k :: r, A => by
    rw [List.map_cons, ksGo, ksGo, kErr_c]
    have := ksGo_c r (A ++ [k])
    rw [List.map_append] at this
    rw [show A.map Kd.cz ++ [k.cz] = A.map Kd.cz ++ [k].map Kd.cz from rfl, this]
    rfl
theorem ksErr_c (L : List Kd) : ksErr (L.map Kd.cz) = ksErr L := by
  unfold ksErr
  rw [List.length_map]
  have := ksGo_c L []
  rw [show (([] : List Kd).map Kd.cz) = [] from rfl] at this
  rw [this]
theorem bErr_c (L : List Kd) (A : List Bd) (x : Bd) : bErr (L.map Kd.cz) A x = bErr L A x := by
  unfold bErr hasK
  rw [idxK_c, idxK_c]
theorem bsGo_c (L : List Kd) : ∀ (B A : List Bd), bsGo (L.map Kd.cz) A B = bsGo L A B
  | [], _ => rfl
  | x :: r, A => by rw [bsGo, bsGo, bErr_c, bsGo_c L r]
theorem sErr_c (L : List Kd) (B : List Bd) : sErr (L.map Kd.cz) B = sErr L B := by
  unfold sErr
  rw [ksErr_c, bsGo_c]
theorem cz_kq {L L' : List Kd} (h : L.map kq3 = L'.map kq3) : L.map Kd.cz = L'.map Kd.cz := by
  have e : ∀ M : List Kd, M.map Kd.cz = (M.map kq3).map fun q => ⟨q.1, q.2.1, q.2.2, .nilIface, .nilIface⟩ := fun M => by rw [List.map_map]; rfl
  rw [e, e, h]
theorem kin_c (L : List Kd) (a : Nm) : kin (L.map Kd.cz) a = (kin L a).map Kd.cz := by
  unfold kin nmAt
  rw [idxK_c, ← List.map_take, kinOf_c]
theorem nms_c (K : List Kd) : nms (K.map Kd.cz) = nms K := by
  unfold nms
  rw [List.map_map]
  rfl
theorem fields_c (L : List Kd) (a : Nm) : fields (L.map Kd.cz) a = fields L a := by
  unfold fields
  rw [kin_c, fieldsOf_c]
theorem shp_c (L : List Kd) (B : List Bd) (a : Nm) : shp (L.map Kd.cz) B a = shp L B a := by
  unfold shp
  rw [kin_c, nms_c, fields_c]
theorem shO_c (L : List Kd) (B : List Bd) (M : List Kd) : shO (L.map Kd.cz) B (M.map Kd.cz) = shO L B M := by
  unfold shO
  rw [List.foldl_map]
  congr 1
  funext F k
  rw [shp_c]
  rfl
theorem allF_k (L : List Kd) (B : List Bd) (N : List Nd) (T : List Te) : allF (L.map Kd.cz) B N T = allF L B N T := by
  unfold allF
  rw [shO_c]
theorem cfE_c (L : List Kd) (B : List Bd) (N : List Nd) (T : List Te) : cfE L B (cN N) T = cfE L B N T := by
  unfold cfE confB inE
  rw [allF_c, gErr_c]
theorem sErr_kq {L L' : List Kd} (h : L.map kq3 = L'.map kq3) (B : List Bd) : sErr L B = sErr L' B := by rw [← sErr_c L, ← sErr_c L', cz_kq h]
theorem confB_kq {L L' : List Kd} (h : L.map kq3 = L'.map kq3) (B : List Bd) (N : List Nd) (T : List Te) : confB L B N T = confB L' B N T := by
  unfold confB inE
  rw [sErr_kq h, ← allF_k L, ← allF_k L', cz_kq h]
theorem confB_c (L : List Kd) (B : List Bd) (N : List Nd) (T : List Te) : confB L B (cN N) T = confB L B N T := by
  unfold confB inE
  rw [allF_c, gErr_c]
end Go.Proofs.YtifhigajonafdaaGreat

/-
  The walk of with.
-/
namespace Go.Proofs.YtifhigajonafdaaGreat
open Go.RowKit Go.Maps
set_option linter.unusedVariables false
set_option linter.unusedSimpArgs false

def wE (s : Bs) (O : List Opx) : Int := if opS.err O s.N s.T = 0 then (if confB s.L s.B (opS.res O s.N s.T).1 (opS.res O s.N s.T).2 = true then 0 else 9) else opS.err O s.N s.T
def WiP (s : Bs) (O : List Opx) (w : World) (e : Ending) (w' : World) : Prop :=
  ∃ a n c a' n' c', e = .returned (.tuple #[.agg #[.slice a n c, .slice a' n' c'], errV (wE s O)]) ∧
    (wE s O = 0 → ∃ M, cN M = (opS.res O s.N s.T).1 ∧ OwnNs w' w.heap.size (.slice a n c) M ∧ OwnTs w' w.heap.size (.slice a' n' c') (opS.res O s.N s.T).2) ∧ Below w.heap.size w w'

set_option maxHeartbeats 4000000 in
set_option maxRecDepth 100000 in
theorem with_no {w : World} {base p : Nat} {l : Bl} {s : Bs} (h : BeL w base p l s) (hok : BsOk s) {vo : Value} {O : List Opx} (hO : IsO w vo O) (lO : O.length ≤ 40) (zO : ∀ o ∈ O, OpSz o) (he : opS.err O s.N s.T ≠ 0) :
    Calls Tryz.prog 25 #[.pointer (some ⟨p, 0, none⟩), vo] w (WiP s O w) := by
  have hz : wE s O = opS.err O s.N s.T := by unfold wE; rw [if_neg he]
  obtain ⟨hs0, hg0, _⟩ := cfE_zero hok.c0
  have hgM : gErr l.M s.T = 0 := by rw [← gErr_c, h.gr.1]; exact hg0
  obtain ⟨zM, zT⟩ := gErr_sz hgM
  obtain ⟨an, cn, hvn⟩ := own_slice h.gr.2.1.1
  obtain ⟨at', ct, hvt⟩ := own_slice h.gr.2.2
  obtain ⟨W0, hW0⟩ : ∃ W0, W0 = w.alloc (.cells #[.slice none 0 0, .slice none 0 0] 29) := ⟨_, rfl⟩
  have hB0 : Below w.heap.size w W0 := by rw [hW0]; exact b_alloc (Below.refl _ _) _
  have n0 : W0.heap[w.heap.size]? = some (.cells #[.slice none 0 0, .slice none 0 0] 29 (0, 0)) := by rw [hW0]; exact heap_alloc_new w _
  have hcs := h.cs
  rw [hvn, hvt] at hcs
  have hcs0 := (hB0.block p (Array.getElem?_eq_some_iff.1 hcs).1).trans hcs
  have hplt := (Array.getElem?_eq_some_iff.1 hcs).1
  have y0 : W0.cell? ⟨p, 2, none⟩ = some (.slice an l.M.length cn) := cell_at hcs0 rfl
  have y1 : W0.cell? ⟨p, 3, none⟩ = some (.slice at' s.T.length ct) := cell_at hcs0 rfl
  have hN := h.gr.2.1
  have hT := h.gr.2.2
  rw [hvn] at hN
  rw [hvt] at hT
  have c := all_in opS ((hN.kt (.of_below hB0) (.of_below hB0)).isN) ((hT.kt (.of_below hB0)).isT) zM zT hgM (hO.on hB0) lO zO (fun o _ => apply_all o) (fun o _ => keeps_all o)
  have c' : Calls Tryz.prog 34 #[.agg #[.slice an l.M.length cn, .slice at' s.T.length ct], vo] W0 fun e w' => ∃ k z, e = .returned (.tuple #[.agg #[.slice none 0 0, .slice none 0 0], .int .i64 k, .iface 74 (.int .i64 z)]) ∧ errV (wE s O) = .iface 74 (.int .i64 z) ∧ Below W0.heap.size W0 w' := c.mono fun e w' hP => by
    obtain ⟨hB, ⟨h1, _⟩ | ⟨h1, rfl⟩⟩ := hP
    · rw [h.gr.1] at h1; exact absurd h1 he
    · rw [h.gr.1]
      exact ⟨_, _, by rw [errV_ne he], by rw [hz, errV_ne he], hB⟩
  have hne : ¬ p = w.heap.size := by omega
  have hs0' : W0.heap.size = w.heap.size + 1 := by rw [hW0]; simp
  have HB := Lib.hid (And.intro hB0 n0)
  have HS0 := Lib.hid hs0'
  obtain ⟨ao, co, hvo, _⟩ := id hO
  subst hvo
  have HWE : Hid (wE s O ≠ 0) := by show _; rw [hz]; exact he
  generalize hq : errV (wE s O) = ve at c'
  have HVE := Lib.hid hq
  clear hN hT c hcs hcs0 zM zT hgM hg0 hs0 h hok hO zO hB0 n0 hvn hvt hz hq he
  go_enter Tryz.func25, Tryz.ntmps25
  go_upto_region 1 with fail
  rw [← hW0]
  clear hW0
  go_wp2_with (first | (go_at_call 34; refine c'.mono ?_; rintro e W1 ⟨k, z, rfl, hv, hB1⟩; refine Hid.out ?_; have hv' := Lib.hid hv; clear hv; have m0 := (hB1.block _ (by have := HS0.out; omega)).trans HB.out.2; have z0 : W1.cell? ⟨w.heap.size, 0, none⟩ = some (.slice none 0 0) := cell_at m0 rfl; have z1 : W1.cell? ⟨w.heap.size, 1, none⟩ = some (.slice none 0 0) := cell_at m0 rfl; have f0 : W1.frozen? ⟨w.heap.size, 0, none⟩ = false := frz_at m0; have f1 : W1.frozen? ⟨w.heap.size, 1, none⟩ = false := frz_at m0; have hn1 : ¬ w.heap.size = W1.heap.size := (by have h1 := hB1.size; have h2 := HS0.out; omega); have HX := Lib.hid (And.intro m0 hB1); clear m0 hB1))
  refine Lib.hid ?_
  go_upto_region 3 with fail
  obtain ⟨m0, hB1⟩ := HX.out
  obtain ⟨W3, hW3⟩ : ∃ W3, W3 = W1.alloc (.cells #[.slice none 0 0, .slice none 0 0] 29) := ⟨_, rfl⟩
  rw [← hW3]
  have m3 : W3.heap[w.heap.size]? = some (.cells #[.slice none 0 0, .slice none 0 0] 29 (0, 0)) := by rw [hW3]; exact (Below.heap_alloc _ _ _ (Array.getElem?_eq_some_iff.1 m0).1).trans m0
  have k0 : W3.cell? ⟨w.heap.size, 0, none⟩ = some (.slice none 0 0) := cell_at m3 rfl
  have k1 : W3.cell? ⟨w.heap.size, 1, none⟩ = some (.slice none 0 0) := cell_at m3 rfl
  have g0 : W3.frozen? ⟨w.heap.size, 0, none⟩ = false := frz_at m3
  have g1 : W3.frozen? ⟨w.heap.size, 1, none⟩ = false := frz_at m3
  have HE : Hid (Below w.heap.size w W3) := by
    show Below w.heap.size w W3
    rw [hW3]; exact b_alloc (on1K HB.out.1 hB1 (Nat.le_refl _)) _
  clear hW3 m0 hB1 m3 z0 z1 f0 f1 y0 y1
  go_wp2
  refine bodyPost_ret (v := .tuple #[.agg #[.slice none 0 0, .slice none 0 0], .iface 74 (.int .i64 z)]) ?_ rfl ⟨_, _, _, _, _, _, by rw [HVE.out, hv'.out], fun h => absurd h HWE.out, (HE.out.setCell (Nat.le_refl _) _).setCell (Nat.le_refl _) _⟩
  simp [results, Tryz.results25, go_sem, k0, k1]
theorem kq_sz {K L : List Kd} (h : K.map kq3 = L.map kq3) (hz : SzK L) : SzK K := fun k hk => by
  have : kq3 k ∈ L.map kq3 := by rw [← h]; exact List.mem_map.2 ⟨k, hk, rfl⟩
  obtain ⟨k', hk', e⟩ := List.mem_map.1 this
  have e1 : k'.nm = k.nm := congrArg (·.1) e
  have e2 : k'.fs = k.fs := congrArg (·.2.2) e
  rw [← e1, ← e2]
  exact hz k' hk'
theorem ownKs_sc {w : World} {base : Nat} {vk vb : Value} {K L : List Kd} {B : List Bd} (h : K.map kq3 = L.map kq3 ∧ OwnKs w base vk K ∧ OwnBs w base vb B) (hz : SzK L) (hzb : SzB B) : IsSc w (.agg #[vk, vb]) K B :=
  ⟨vk, vb, rfl, own_isK h.2.1.1, fun k hk => ⟨own_isS (h.2.1.2 k hk).1, own_isF (h.2.1.2 k hk).2⟩, kq_sz h.1 hz, own_isB h.2.2, hzb⟩
set_option maxHeartbeats 8000000 in
set_option maxRecDepth 100000 in
theorem with_ok {w : World} {base p : Nat} {l : Bl} {s : Bs} (h : BeL w base p l s) (hok : BsOk s) {vo : Value} {O : List Opx} (hO : IsO w vo O) (lO : O.length ≤ 40) (zO : ∀ o ∈ O, OpSz o) (he : opS.err O s.N s.T = 0) :
    Calls Tryz.prog 25 #[.pointer (some ⟨p, 0, none⟩), vo] w (WiP s O w) := by
  have hz : wE s O = if confB s.L s.B (opS.res O s.N s.T).1 (opS.res O s.N s.T).2 = true then 0 else 9 := by unfold wE; rw [if_pos he]
  obtain ⟨hs0, hg0, _⟩ := cfE_zero hok.c0
  have hgM : gErr l.M s.T = 0 := by rw [← gErr_c, h.gr.1]; exact hg0
  obtain ⟨zM, zT⟩ := gErr_sz hgM
  obtain ⟨an, cn, hvn⟩ := own_slice h.gr.2.1.1
  obtain ⟨at', ct, hvt⟩ := own_slice h.gr.2.2
  obtain ⟨ak, ck, hvk⟩ := own_slice h.sc.2.1.1
  obtain ⟨ab, cb, hvb⟩ := own_slice h.sc.2.2
  obtain ⟨W0, hW0⟩ : ∃ W0, W0 = w.alloc (.cells #[.slice none 0 0, .slice none 0 0] 29) := ⟨_, rfl⟩
  have hB0 : Below w.heap.size w W0 := by rw [hW0]; exact b_alloc (Below.refl _ _) _
  have n0 : W0.heap[w.heap.size]? = some (.cells #[.slice none 0 0, .slice none 0 0] 29 (0, 0)) := by rw [hW0]; exact heap_alloc_new w _
  have hcs := h.cs
  rw [hvn, hvt, hvk, hvb] at hcs
  have hcs0 := (hB0.block p (Array.getElem?_eq_some_iff.1 hcs).1).trans hcs
  have hplt := (Array.getElem?_eq_some_iff.1 hcs).1
  have y0 : W0.cell? ⟨p, 2, none⟩ = some (.slice an l.M.length cn) := cell_at hcs0 rfl
  have y1 : W0.cell? ⟨p, 3, none⟩ = some (.slice at' s.T.length ct) := cell_at hcs0 rfl
  have hN := h.gr.2.1
  have hT := h.gr.2.2
  have hS := h.sc
  rw [hvn] at hN
  rw [hvt] at hT
  rw [hvk, hvb] at hS
  have c := all_in opS ((hN.kt (.of_below hB0) (.of_below hB0)).isN) ((hT.kt (.of_below hB0)).isT) zM zT hgM (hO.on hB0) lO zO (fun o _ => apply_all o) (fun o _ => keeps_all o)
  have c' : Calls Tryz.prog 34 #[.agg #[.slice an l.M.length cn, .slice at' s.T.length ct], vo] W0 fun e w' => ∃ a n c a' n' c' M, e = .returned (.tuple #[.agg #[.slice a n c, .slice a' n' c'], .int .i64 0, .nilIface]) ∧ (cN M = (opS.res O s.N s.T).1 ∧ OwnNs w' W0.heap.size (.slice a n c) M ∧ OwnTs w' W0.heap.size (.slice a' n' c') (opS.res O s.N s.T).2 ∧ gErr M (opS.res O s.N s.T).2 = 0) ∧ Below W0.heap.size W0 w' := c.mono fun e w' hP => by
    obtain ⟨hB, ⟨h1, un, ut, M, rfl, q1, q2, q3, q4⟩ | ⟨h1, rfl⟩⟩ := hP
    · rw [h.gr.1] at q1 q3 q4
      obtain ⟨a, c, e1⟩ := own_slice q2.1
      obtain ⟨a', c', e2⟩ := own_slice q3
      subst e1 e2
      exact ⟨_, _, _, _, _, _, M, rfl, ⟨q1, q2, q3, q4⟩, hB⟩
    · rw [h.gr.1] at h1
      exact absurd he h1
  have hne : ¬ p = w.heap.size := by omega
  have hs0' : W0.heap.size = w.heap.size + 1 := by rw [hW0]; simp
  have HB := Lib.hid (And.intro hB0 n0)
  have HS0 := Lib.hid hs0'
  obtain ⟨ao, co, hvo, _⟩ := id hO
  subst hvo
  have HCF : Hid (∀ W a n c a' n' c' M, Below w.heap.size w W → cN M = (opS.res O s.N s.T).1 → IsN W (.slice a n c) M → IsT W (.slice a' n' c') (opS.res O s.N s.T).2 → gErr M (opS.res O s.N s.T).2 = 0 → Calls Tryz.prog 13 #[.agg #[.slice ak l.K.length ck, .slice ab s.B.length cb], .agg #[.slice a n c, .slice a' n' c']] W fun e w' => e = .returned (.tuple #[.bool (confB s.L s.B (opS.res O s.N s.T).1 (opS.res O s.N s.T).2), .nilIface]) ∧ Below W.heap.size W w') := fun W a n c a' n' c' M hB q1 q2 q3 q4 => by
    obtain ⟨z1, z2⟩ := gErr_sz q4
    obtain ⟨l1, l2, _⟩ := gErr_lens q4
    have cc := conforms_any ((ownKs_sc hS hok.kz hok.bz).on hB) (N := M) (T := (opS.res O s.N s.T).2) (vg := .agg #[.slice a n c, .slice a' n' c']) ⟨_, _, rfl, q2, q3, z1, z2, by unfold maxLen; omega, by unfold maxLen; omega⟩
    have e1 : confB l.K s.B M (opS.res O s.N s.T).2 = confB s.L s.B (opS.res O s.N s.T).1 (opS.res O s.N s.T).2 := by rw [confB_kq h.sc.1, ← q1, confB_c]
    have e2 : inE l.K s.B M (opS.res O s.N s.T).2 = 0 := by
      unfold inE
      rw [sErr_kq h.sc.1, if_pos hs0, q4]
    rw [e1, e2, errV_0] at cc
    exact cc
  generalize hX : (opS.res O s.N s.T).1 = X at c' HCF hz
  generalize hU : (opS.res O s.N s.T).2 = U at c' HCF hz
  have HXU := Lib.hid (And.intro hX hU)
  have HWE := Lib.hid hz
  have HP : Hid (w.heap[p]? = some (.cells #[.slice ak l.K.length ck, .slice ab s.B.length cb, .slice an l.M.length cn, .slice at' s.T.length ct, .map (some l.mb), .int .i64 s.op, .int .i64 s.age] 73 (0, 0))) := hcs
  clear hN hT hS c hcs hcs0 zM zT hgM hg0 hs0 h hok hO zO hB0 n0 hvn hvt hvk hvb hz hX hU he
  go_enter Tryz.func25, Tryz.ntmps25
  go_upto_region 1 with fail
  rw [← hW0]
  clear hW0
  go_wp2_with (first | (go_at_call 34; refine c'.mono ?_; rintro e W1 ⟨a1, n1, c1, a2, n2, c2, M, rfl, hM, hB1⟩; refine Hid.out ?_; have HM := Lib.hid (And.intro hM hB1); clear hM hB1))
  refine Lib.hid ?_
  go_upto_region 4 with fail
  obtain ⟨hM, hB1⟩ := HM.out
  have hw1 : Below w.heap.size w W1 := on1K HB.out.1 hB1 (Nat.le_refl _)
  obtain ⟨W3, hW3⟩ : ∃ W3, W3 = W1.alloc (.cells #[.slice a1 n1 c1, .slice a2 n2 c2] 29) := ⟨_, rfl⟩
  rw [← hW3]
  have hB3 : Below W1.heap.size W1 W3 := by rw [hW3]; exact b_alloc (Below.refl _ _) _
  have hw3 : Below w.heap.size w W3 := on1K hw1 hB3 (Nat.le_refl _)
  have t3 : W3.heap[W1.heap.size]? = some (.cells #[.slice a1 n1 c1, .slice a2 n2 c2] 29 (0, 0)) := by rw [hW3]; exact heap_alloc_new W1 _
  have hz1 := hB1.size
  have m1 := (hB1.block _ (by have := HS0.out; omega)).trans HB.out.2
  have m3 := (hB3.block _ (Array.getElem?_eq_some_iff.1 m1).1).trans m1
  have p3 := (hw3.block p hplt).trans HP.out
  have y2 : W3.cell? ⟨p, 0, none⟩ = some (.slice ak l.K.length ck) := cell_at p3 rfl
  have y3 : W3.cell? ⟨p, 1, none⟩ = some (.slice ab s.B.length cb) := cell_at p3 rfl
  have y4 : W3.cell? ⟨W1.heap.size, 0, none⟩ = some (.slice a1 n1 c1) := cell_at t3 rfl
  have y5 : W3.cell? ⟨W1.heap.size, 1, none⟩ = some (.slice a2 n2 c2) := cell_at t3 rfl
  have cC := HCF.out W3.drew a1 n1 c1 a2 n2 c2 M (b_drew hw3) hM.1 (hM.2.1.kt (.of_below hB3) (.of_below hB3)).isN (hM.2.2.1.kt (.of_below hB3)).isT hM.2.2.2
  have HQ : Hid (∀ W, Below W3.drew.heap.size W3.drew W → W.cell? ⟨p, 0, none⟩ = some (.slice ak l.K.length ck) ∧ W.cell? ⟨p, 1, none⟩ = some (.slice ab s.B.length cb) ∧ W.cell? ⟨W1.heap.size, 0, none⟩ = some (.slice a1 n1 c1) ∧ W.cell? ⟨W1.heap.size, 1, none⟩ = some (.slice a2 n2 c2)) := fun W hB => by
    have h1 := (hB.block p (Array.getElem?_eq_some_iff.1 p3).1).trans p3
    have h2 := (hB.block _ (Array.getElem?_eq_some_iff.1 t3).1).trans t3
    exact ⟨cell_at h1 rfl, cell_at h1 rfl, cell_at h2 rfl, cell_at h2 rfl⟩
  have HF : Hid (∀ W, Below W3.drew.heap.size W3.drew W → W.heap[w.heap.size]? = some (.cells #[.slice none 0 0, .slice none 0 0] 29 (0, 0)) ∧ Below w.heap.size w W ∧ (cN M = X ∧ OwnNs W w.heap.size (.slice a1 n1 c1) M ∧ OwnTs W w.heap.size (.slice a2 n2 c2) U)) := fun W hB => by
    have hB' := b_undrew hB
    have h31 := on1K hB3 hB' (Nat.le_refl _)
    have hz0 := HS0.out
    exact ⟨(hB'.block _ (Array.getElem?_eq_some_iff.1 m3).1).trans m3, on1K hw3 hB' (Nat.le_refl _), hM.1, (hM.2.1.kt (.of_below h31) (.of_below h31)).base (by omega), own_base (hM.2.2.1.kt (.of_below h31)) (by omega)⟩
  have hbv : ∀ b, confB s.L s.B X U = b → Hid (confB s.L s.B X U = b) := fun b h => h
  generalize hcb : confB s.L s.B X U = cb' at cC
  have HCB := hbv _ hcb
  clear hbv hcb hM hB1 hw1 hW3 hB3 hw3 t3 m1 m3 p3 hz1 y0 y1
  (go_region_held (fun w' => w'.cell? ⟨p, 0, none⟩ = some (.slice ak l.K.length ck) ∧ w'.cell? ⟨p, 1, none⟩ = some (.slice ab s.B.length cb) ∧ w'.cell? ⟨W1.heap.size, 0, none⟩ = some (.slice a1 n1 c1) ∧ w'.cell? ⟨W1.heap.size, 1, none⟩ = some (.slice a2 n2 c2)) (go_keep) (first | (go_at_call 13; refine cC.mono ?_; rintro e W5 ⟨rfl, hB5⟩; obtain ⟨e0, e1, e2, e3⟩ := HQ.out W5 hB5)))
  all_goals
    obtain ⟨m5, hw5, hR⟩ := HF.out W5 hB5
    have k0 : W5.cell? ⟨w.heap.size, 0, none⟩ = some (.slice none 0 0) := cell_at m5 rfl
    have k1 : W5.cell? ⟨w.heap.size, 1, none⟩ = some (.slice none 0 0) := cell_at m5 rfl
    have g0 : W5.frozen? ⟨w.heap.size, 0, none⟩ = false := frz_at m5
    have g1 : W5.frozen? ⟨w.heap.size, 1, none⟩ = false := frz_at m5
    have HR := Lib.hid (And.intro hR (And.intro hw5 m5))
    clear hB5 m5 hw5 hR cC
    by_cases hq : cb' = true
    · subst hq
      have HW0 : Hid (wE s O = 0) := by
        show _ = _
        rw [HWE.out, if_pos HCB.out]
      go_wp2
      obtain ⟨⟨r1, r2, r3⟩, hw5, m5⟩ := HR.out
      have kz : ∀ t, 29 ≠ t → Kt t W5 ((W5.setCell ⟨w.heap.size, 0, none⟩ (.slice a1 n1 c1)).setCell ⟨w.heap.size, 1, none⟩ (.slice a2 n2 c2)) := fun t ht => ((Kt.refl _ _).ty ⟨_, m5⟩ ht _ _).ty (Ty.set ⟨_, m5⟩ _ _ _) ht _ _
      refine bodyPost_ret (v := .tuple #[.agg #[.slice a1 n1 c1, .slice a2 n2 c2], .nilIface]) ?_ rfl ⟨_, _, _, _, _, _, by rw [HW0.out, errV_0], fun _ => ⟨M, by rw [HXU.out.1]; exact r1, r2.kt (kz _ (by decide)) (kz _ (by decide)), by rw [HXU.out.2]; exact r3.kt (kz _ (by decide))⟩, (hw5.setCell (Nat.le_refl _) _).setCell (Nat.le_refl _) _⟩
      simp [results, Tryz.results25, go_sem, k0, k1]
    · have hq' : cb' = false := by simpa using hq
      subst hq'
      have HW0 : Hid (wE s O = 9) := by
        show _ = _
        rw [HWE.out, if_neg (by rw [HCB.out]; decide)]
      clear hq
      go_wp2
      obtain ⟨_, hw5, m5⟩ := HR.out
      refine bodyPost_ret (v := .tuple #[.agg #[.slice none 0 0, .slice none 0 0], .iface 74 (.int .i64 9)]) ?_ rfl ⟨_, _, _, _, _, _, by rw [HW0.out]; rfl, fun h => absurd (h.symm.trans HW0.out) (by decide), (hw5.setCell (Nat.le_refl _) _).setCell (Nat.le_refl _) _⟩
      simp [results, Tryz.results25, go_sem, k0, k1]
theorem with_any {w : World} {base p : Nat} {l : Bl} {s : Bs} (h : BeL w base p l s) (hok : BsOk s) {vo : Value} {O : List Opx} (hO : IsO w vo O) (lO : O.length ≤ 40) (zO : ∀ o ∈ O, OpSz o) : Calls Tryz.prog 25 #[.pointer (some ⟨p, 0, none⟩), vo] w (WiP s O w) := by
  by_cases he : opS.err O s.N s.T = 0
  · exact with_ok h hok hO lO zO he
  · exact with_no h hok hO lO zO he
end Go.Proofs.YtifhigajonafdaaGreat
