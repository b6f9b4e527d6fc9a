/-
  (*Move).Step where nodes are left.
-/
import Derived.Test.YtpmblbhemcippaaGreatDoorM32
import Derived.Maps.Keyed
import Derived.Maps.OwnOps
import Derived.WalkKit
import Derived.Test.YtpmblbhemcippaaGreatDoorProg
import Derived.DeepKeys4
namespace Go.Proofs.YtpmblbhemcippaaGreatDoor
open Go.RowKit
set_option linter.unusedVariables false
set_option linter.unusedSimpArgs false

section
variable {w1 w : World} {p : Nat} {c : Ch} {K : List Nm} {L : List Kd} {B : List Bd} {N : List Nd} {T : List Te} {M : List Nd} {k : Nat} {uk ub ks fn vn vt vm : Value}
set_option maxHeartbeats 4000000 in
set_option maxRecDepth 100000 in
theorem step_go (h : Mv w1 w p c K L B N T M k uk ub ks fn vn vt vm) (hl : N.length ≤ 60) (hrl : ∀ x ∈ M, x.rc.length ≤ 1000) (hr : ∀ x ∈ N, rErr x.rc = 0) (hKl : K.length ≤ 1000) (hf : Fit c K) (hsz : Sz [c.pr]) (hyl : ∀ x ∈ N, (ndY c K x).length ≤ 1000) {n : Int} (h1 : ¬ n < 1) (h2 : ¬ 60 < n) (hk : ¬ k = N.length) :
    Calls Tryz.prog 26 #[.pointer (some ⟨p, 0, none⟩), .int .i64 n] w (StP w1 w p c K L B N T M k uk ub ks fn vn vt vm n) := by
  obtain ⟨m, hm⟩ : ∃ m : Nat, m = min n.toNat (N.length - k) := ⟨_, rfl⟩
  have hkN : k < N.length := by have := h.hk; omega
  have hm1 : 1 ≤ m := by omega
  have hkm : k + m ≤ N.length := by omega
  have hmin : min n ((N.length : Int) - k) = (m : Int) := by omega
  have hpt : (N.drop k).take n.toNat = (N.drop k).take m := by
    rw [hm]
    by_cases hc : n.toNat ≤ N.length - k
    · rw [Nat.min_eq_left hc]
    · rw [Nat.min_eq_right (by omega), List.take_of_length_le (by simp; omega), List.take_of_length_le (by simp)]
  have eE : stE c K N k n = allX c K ((N.drop k).take m) := by unfold stE; rw [if_neg (by omega), if_neg hk, hpt]
  have eK : stK N k n = k + m := by unfold stK; rw [← hm]
  obtain ⟨⟨u1, u2, u3, rfl⟩, ⟨b1, b2, b3, rfl⟩, ⟨k1, k2, k3, rfl⟩, ⟨n1, n2, n3, rfl⟩, ⟨t1, t2, t3, rfl⟩, ⟨a, cap, rfl⟩, hf1⟩ := h.sl
  obtain ⟨g, rfl, hcap⟩ : ∃ g, a = some ⟨g, 0, none⟩ ∧ N.length ≤ cap := by
    rcases h.hnow.2 with ⟨e, h0⟩ | ⟨g, cap', cur, e, _, _, h3, _⟩
    · omega
    · injection e with e1 _ e3; subst e3; exact ⟨g, e1, h3⟩
  have cl := left_any h (by omega)
  have HL : Hid (∀ W, Below w.heap.size w W → Calls Tryz.prog 25 #[.pointer (some ⟨p, 0, none⟩)] W fun e w' => e = .returned (.int .i64 ((N.length : Int) - k)) ∧ Below W.heap.size W w') := fun W hB => left_any (h.on hB) (by omega)
  have HC : Hid (∀ W, Below w.heap.size w W → (W.cell? ⟨p, 0, none⟩ = some (.slice u1 u2 u3) ∧ W.cell? ⟨p, 1, none⟩ = some (.slice b1 b2 b3) ∧ W.cell? ⟨p, 2, none⟩ = some (.slice k1 k2 k3) ∧ W.cell? ⟨p, 3, none⟩ = some fn ∧ W.cell? ⟨p, 4, none⟩ = some (.string (drp c))) ∧ W.cell? ⟨p, 7, none⟩ = some (.slice (some ⟨g, 0, none⟩) N.length cap) ∧ W.cell? ⟨p, 8, none⟩ = some (.int .i64 k)) := fun W hB => by
    have x := (h.on hB).hp
    exact ⟨⟨cell_at x rfl, cell_at x rfl, cell_at x rfl, cell_at x rfl, cell_at x rfl⟩, cell_at x rfl, cell_at x rfl⟩
  have HNd : Hid (∀ W, Below w.heap.size w W → Calls Tryz.prog 40 #[.agg #[.slice u1 u2 u3, .slice b1 b2 b3, .slice k1 k2 k3, fn, .string (drp c)], .slice (some ⟨g, k * 3, none⟩) m (cap - k)] W (NsP W c K ((N.drop k).take m))) := fun W hB => by
    have h9 := h.on hB
    have hI := IsN.part (v := .nilIface) (k := k) (m := m) (own_base (by have := h9.hnow; rw [← h.hlen] at this; exact this) (Nat.zero_le _)) h9.isR (by rw [h.hlen]; exact hkm)
    rw [part_same h.hlen h.hold] at hI
    refine wnodes_any c (drp c) hI (by simp; omega) (h.hks.on h9.hB) hKl (h.hT.on h9.hB) (fun x hx => hr x (List.mem_of_mem_drop (List.mem_of_mem_take hx))) ⟨_, _, _, rfl⟩ ⟨_, _, _, rfl⟩ hf hsz
  have HM := Lib.hid (And.intro h (And.intro hrl (And.intro hyl (And.intro hkm (And.intro eE eK)))))
  have hkl : (k : Int) < (N.length : Int) := by omega
  have hz0 : ((N.length : Int) - k == 0) = false := by simp; omega
  have hwr : IntKind.i64.wrap ((k : Int) + m) = (k : Int) + m := by rw [IntKind.wrap_i64]; omega
  have hs1 : (k : Int) + m ≤ (cap : Int) := by omega
  have hs2 : (k : Int) ≤ (k : Int) + m := by omega
  have hne : ¬ cap = k := by omega
  clear h hrl hr hKl hf hsz hyl hpt eE eK hm
  go_enter Tryz.func26, Tryz.ntmps26
  go_upto_region 5 with (go_at_call 25; refine cl.mono ?_; rintro e W1 ⟨rfl, hB1⟩)
  have cl2 := HL.out W1 hB1
  clear cl
  go_upto_region 6 with (go_at_call 25; refine cl2.mono ?_; rintro e W2 ⟨rfl, hB2⟩)
  have hB02 := on1K hB1 hB2 (Nat.le_refl _)
  obtain ⟨⟨c0, c1, c2, c3, c4⟩, c7, c8⟩ := HC.out W2 hB02
  go_quiet (fail)
  rw [Nat.add_sub_cancel_left]
  have hB03 : Below w.heap.size w (W2.drewN nq) := b_drewK hB02 _
  generalize W2.drewN nq = W3 at *
  clear c0 c1 c2 c3 c4 c7 c8 hB1 hB2 hB02 cl2
  obtain ⟨⟨c0, c1, c2, c3, c4⟩, c7, c8⟩ := HC.out W3 hB03
  have cN1 := HNd.out W3 hB03
  unfold NsP at cN1
  by_cases hz : allX c K ((N.drop k).take m) = 0
  · have HS : Hid (∀ W4 (e : Ending), (∃ u X, e = .returned (.tuple #[u, .nilIface]) ∧ cN X = ((N.drop k).take m).map (ndT c K) ∧ OwnNs W4 W3.heap.size u X) → Below W3.heap.size W3 W4 → ∃ g2 cap2 X, e = .returned (.tuple #[.slice (some ⟨g2, 0, none⟩) m cap2, .nilIface]) ∧ ∃ cur : Array Value, (∀ ty, (Builtin.copy_ #[22, 22] ty #[.slice (some ⟨g, k * 3, none⟩) m (cap - k), .slice (some ⟨g2, 0, none⟩) m cap2]).run Tryz.prog W4 = .ok (goInt (m : Int)) (W4.setRow g (lay cur.toList (k * 3) (cellsN X)).toArray)) ∧ ∀ W5, W5 = W4.setRow g (lay cur.toList (k * 3) (cellsN X)).toArray → (W5.cell? ⟨p, 8, none⟩ = some (.int .i64 k) ∧ W5.frozen? ⟨p, 8, none⟩ = false) ∧ ∀ W6, W6 = W5.setCell ⟨p, 8, none⟩ (.int .i64 ((k : Int) + m)) → StP w1 w p c K L B N T M k (.slice u1 u2 u3) (.slice b1 b2 b3) (.slice k1 k2 k3) fn (.slice n1 n2 n3) (.slice t1 t2 t3) (.slice (some ⟨g, 0, none⟩) N.length cap) n (.returned (.tuple #[.int .i64 m, .nilIface])) W6) := by
      rintro W4 e ⟨u, X, he, hX, hO⟩ hB4
      obtain ⟨hMv, hrl, hyl, hkm, eE, eK⟩ := HM.out
      have hB04 := on1K hB03 hB4 (Nat.le_refl _)
      obtain ⟨cur, hg, hfit, hXl, hW⟩ := mv_copy hMv hB04 rfl hX hkm (fun x hx => own_base (hO.2 x hx) hB03.size) hz
      obtain ⟨g2, cap2, hu⟩ : ∃ g2 cap2, u = .slice (some ⟨g2, 0, none⟩) m cap2 := by
        rcases hO.1.2 with ⟨_, h0⟩ | ⟨g2, cap2, _, e2, _⟩
        · omega
        · exact ⟨g2, cap2, by rw [e2, hXl]⟩
      subst hu
      have hXc : (cellsN X).length = m * 3 := by rw [← hXl]; exact flatK_len nd_len X
      refine ⟨g2, cap2, X, he, cur, fun ty => ?_, fun W5 hW5 => ?_⟩
      · exact run_copy_rowN W4 22 22 ty 57 3 g (k * 3) m (cap - k) ⟨g2, 0, none⟩ m cap2 cur 57 (cellsN X) m Tryz.underlying22 info46s hg (Nat.min_self m) hXc (fun j v hv => World.ownsRow.cells hO.1 rfl j v hv) hfit (nd_one hO.sl)
      · obtain ⟨q1, q2⟩ := hW W5 hW5
        refine ⟨q1, fun W6 hW6 => ?_⟩
        obtain ⟨q3, q4, q5⟩ := q2 W6 hW6
        refine ⟨m, _, by rw [eE, hz]; rfl, by rw [eE, hz, if_pos rfl, eK]; exact q3, q4, fun x hx => ?_, q5⟩
        rcases List.mem_append.1 hx with hx | hx
        · rcases List.mem_append.1 hx with hx | hx
          · exact hrl x (List.mem_of_mem_take hx)
          · obtain ⟨i, hi⟩ := List.getElem?_of_mem hx
            have h9 : (cN X)[i]? = some x.c := by unfold cN; rw [List.getElem?_map, hi]; rfl
            rw [hX, List.getElem?_map] at h9
            obtain ⟨y, hy, e9⟩ := Option.map_eq_some_iff.1 h9
            have : x.rc = ndY c K y := by have := congrArg Nd.rc e9; exact this.symm
            rw [this]
            exact hyl y (List.mem_of_mem_drop (List.mem_of_mem_take (List.mem_of_getElem? hy)))
        · exact hrl x (List.mem_of_mem_drop hx)
    rw [hz] at cN1
    clear HM HL HC HNd hB03 hz
    go_upto_region 10 with (go_at_call 40; refine cN1.mono ?_; rintro e W4 ⟨hy, _, hB4⟩; obtain ⟨g2, cap2, X, rfl, cur, hcp, hW⟩ := HS.out W4 e (hy (by simp)) hB4; clear hy hB4)
    obtain ⟨W5, hW5⟩ : ∃ W5, W5 = W4.setRow g (lay cur.toList (k * 3) (cellsN X)).toArray := ⟨_, rfl⟩
    obtain ⟨⟨q1, q2⟩, q3⟩ := hW W5 hW5
    rw [← hW5] at hcp
    have HE := Lib.hid q3
    clear hW q3 hW5 cN1 HS c0 c1 c2 c3 c4 c7 c8
    go_wp2_with (at_builtin; refine wpList_copy_runN _ rfl (.tmp 51) (.tmp 52) 22 22 rfl _ _ rfl rfl (hcp _) ?_)
    go_ret2
    exact HE.out _ rfl
  · have HQ : Hid (∀ W4 (e : Ending), (¬ allX c K ((N.drop k).take m) = 0 → e = .returned (.tuple #[.slice none 0 0, errV (allX c K ((N.drop k).take m))])) → Below W3.heap.size W3 W4 → e = .returned (.tuple #[.slice none 0 0, .iface 71 (.int .i64 (allX c K ((N.drop k).take m)))]) ∧ StP w1 w p c K L B N T M k (.slice u1 u2 u3) (.slice b1 b2 b3) (.slice k1 k2 k3) fn (.slice n1 n2 n3) (.slice t1 t2 t3) (.slice (some ⟨g, 0, none⟩) N.length cap) n (.returned (.tuple #[.int .i64 0, .iface 71 (.int .i64 (allX c K ((N.drop k).take m)))])) W4) := fun W4 e he hB4 => by
      obtain ⟨hMv, hrl, hyl, hkm, eE, eK⟩ := HM.out
      have hB04 := on1K hB03 hB4 (Nat.le_refl _)
      refine ⟨by rw [he hz, errV_ne hz], 0, M, by rw [eE, errV_ne hz], by rw [eE, if_neg hz]; exact hMv.on hB04, hB04.mono hMv.hB.size, hrl, fun t _ _ => Kt.of_below hB04⟩
    generalize allX c K ((N.drop k).take m) = z at *
    clear HM HL HC HNd hB03 hz
    go_wp2_with (go_at_call 40; refine cN1.mono ?_; rintro e W4 ⟨_, hy, hB4⟩; obtain ⟨rfl, hW⟩ := HQ.out W4 e hy hB4; clear hy hB4)
    go_ret2
    exact hW
end
end Go.Proofs.YtpmblbhemcippaaGreatDoor

/-
  Maps that the call has made, of any keys and any elements: what lies in them as a function of the key; make, look-up, store, and the entry of 'm[k]++'.
-/
namespace Go.Proofs.YtpmblbhemcippaaGreatDoor
open Go.RowKit
open Go.MapKept Go.ChangeMaps
open Go.Maps (Keyed)
set_option linter.unusedVariables false
set_option linter.unusedSimpArgs false

section
variable {κ : Type}

def upd [DecidableEq κ] {β : Type} (F : κ → Option β) (x : κ) (v : β) : κ → Option β := fun y => if y = x then some v else F y

def OwnM (w : World) (P : Program) (k : TypeId) (enc : κ → Value) (b : Nat) (F : κ → Option Value) : Prop :=
  ∃ es clock, w.heap[b]? = some (.map es clock) ∧ Stamped es clock ∧ (∀ e ∈ es.toList, ∃ x l, e.key = enc x ∧ keyOf P k e.key = some l ∧ F x = some e.val) ∧ (∀ x v, F x = some v → ∃ e ∈ es.toList, e.key = enc x ∧ e.val = v)
def OwnE (w : World) (P : Program) (k : TypeId) (enc : κ → Value) (b : Nat) (F : κ → Option Value) (x : κ) (n : Nat) : Prop :=
  ∃ es clock, w.heap[b]? = some (.map es clock) ∧ Stamped es clock ∧ (∀ e ∈ es.toList, ∃ x l, e.key = enc x ∧ keyOf P k e.key = some l ∧ F x = some e.val) ∧ (∀ x v, F x = some v → ∃ e ∈ es.toList, e.key = enc x ∧ e.val = v) ∧ ∃ e ∈ es.toList, e.key = enc x ∧ e.born = n

variable {w : World} {P : Program} {k : TypeId} {enc : κ → Value} {b : Nat} {F : κ → Option Value}

theorem OwnE.m {x : κ} {n : Nat} (h : OwnE w P k enc b F x n) : OwnM w P k enc b F := by
  obtain ⟨es, c, h1, h2, h3, h4, _⟩ := h
  exact ⟨es, c, h1, h2, h3, h4⟩
theorem OwnM.lt (h : OwnM w P k enc b F) : b < w.heap.size := by
  obtain ⟨es, c, h1, _⟩ := h
  exact (Array.getElem?_eq_some_iff.1 h1).1
theorem OwnM.of_block {w' : World} (h : OwnM w P k enc b F) (hb : w'.heap[b]? = w.heap[b]?) : OwnM w' P k enc b F := by
  obtain ⟨es, c, h1, h2⟩ := h
  exact ⟨es, c, hb.trans h1, h2⟩
theorem OwnE.of_block {w' : World} {x : κ} {n : Nat} (h : OwnE w P k enc b F x n) (hb : w'.heap[b]? = w.heap[b]?) : OwnE w' P k enc b F x n := by
  obtain ⟨es, c, h1, h2⟩ := h
  exact ⟨es, c, hb.trans h1, h2⟩
theorem OwnM.drew (h : OwnM w P k enc b F) : OwnM w.drew P k enc b F := h
theorem OwnM.made (w : World) : OwnM (w.alloc (.map #[] 0)) P k enc w.heap.size (fun _ => none) :=
  ⟨#[], 0, (MapKept.heap_alloc w _).1, stamped_empty 0, by simp, by simp⟩

theorem OwnM.look (h : OwnM w P k enc b F) (K : Keyed P k) (hinj : ∀ x y, enc x = enc y → x = y) {t e : TypeId} (ht : P.underlying t = some (.map k e)) {z : Value} (hz : (zeroValue e).run P w = .ok z w) {x : κ} {l : Lit} (hk : keyOf P k (enc x) = some l) (c : Bool) :
    (Instr.lookup t (.map (some b)) (enc x) c).run P w = .ok (if c then .tuple #[(F x).getD z, .bool (F x).isSome] else (F x).getD z) w := by
  obtain ⟨es, clock, hb, hs, h1, h2⟩ := h
  rcases K.find w hk es.toList (fun e he => by obtain ⟨_, l, _, h, _⟩ := h1 e he; exact ⟨l, h⟩) with ⟨f1, f2⟩ | ⟨j, e0, f1, f2, f3⟩
  · have hF : F x = none := by
      cases hx : F x with
      | none => rfl
      | some v => obtain ⟨e, he, hke, _⟩ := h2 x v hx; exact absurd hke (f2 e he)
    rw [hF]
    simp [Instr.lookup, run_underlying ht, MapKept.run_getObj_map hb, K.check w _ hk, f1, hz, Result.andThen]
  · obtain ⟨y, l', g1, g2, g3⟩ := h1 e0 (List.mem_of_getElem? f2)
    obtain rfl : y = x := hinj _ _ (g1.symm.trans f3)
    rw [g3]
    simp [Instr.lookup, run_underlying ht, MapKept.run_getObj_map hb, K.check w _ hk, f1, Result.andThen]

theorem mem_modify {es : Array MapEntry} {j : Nat} {e0 : MapEntry} (f : MapEntry → MapEntry) (h : es.toList[j]? = some e0) (x : MapEntry) :
    x ∈ (es.modify j f).toList → x = f e0 ∨ ∃ i, i ≠ j ∧ es.toList[i]? = some x := by
  intro hx
  rw [Array.toList_modify, modify_eq_set _ _ _ _ h] at hx
  obtain ⟨i, hi, ex⟩ := List.getElem_of_mem hx
  rw [List.getElem_set] at ex
  split at ex
  · exact .inl ex.symm
  · rename_i hne
    have hi' : i < es.toList.length := by simpa using hi
    exact .inr ⟨i, fun e => hne e.symm, by rw [List.getElem?_eq_getElem hi', ex]⟩
theorem mem_modify_at {es : Array MapEntry} {j : Nat} {e0 : MapEntry} (f : MapEntry → MapEntry) (h : es.toList[j]? = some e0) : f e0 ∈ (es.modify j f).toList := by
  rw [Array.toList_modify, modify_eq_set _ _ _ _ h]
  have hj := (List.getElem?_eq_some_iff.1 h).1
  exact List.mem_iff_getElem.2 ⟨j, by simpa using hj, by simp⟩
theorem mem_modify_other {es : Array MapEntry} {j : Nat} {e0 : MapEntry} (f : MapEntry → MapEntry) (h : es.toList[j]? = some e0) {e : MapEntry} (he : e ∈ es.toList) (hne : e ≠ e0) : e ∈ (es.modify j f).toList := by
  rw [Array.toList_modify, modify_eq_set _ _ _ _ h]
  obtain ⟨i, hi, rfl⟩ := List.getElem_of_mem he
  have hij : ¬ j = i := fun e => by
    subst e
    rw [List.getElem?_eq_getElem hi] at h
    exact hne (Option.some.inj h)
  exact List.mem_iff_getElem.2 ⟨i, by simpa using hi, by rw [List.getElem_set, if_neg hij]⟩

theorem own_modify [DecidableEq κ] {es : Array MapEntry} {clock : Nat} (hs : Stamped es clock) (h1 : ∀ e ∈ es.toList, ∃ x l, e.key = enc x ∧ keyOf P k e.key = some l ∧ F x = some e.val) (h2 : ∀ x v, F x = some v → ∃ e ∈ es.toList, e.key = enc x ∧ e.val = v) (hinj : ∀ x y, enc x = enc y → x = y)
    {j : Nat} {e0 : MapEntry} (hj : es.toList[j]? = some e0) {x : κ} (hx : e0.key = enc x) (f : MapEntry → MapEntry) (hfk : (f e0).key = e0.key) {v : Value} (hfv : (f e0).val = v) :
    (∀ e ∈ (es.modify j f).toList, ∃ y l, e.key = enc y ∧ keyOf P k e.key = some l ∧ upd F x v y = some e.val) ∧ (∀ y u, upd F x v y = some u → ∃ e ∈ (es.modify j f).toList, e.key = enc y ∧ e.val = u) := by
  have hm0 := List.mem_of_getElem? hj
  constructor
  · intro e he
    rcases mem_modify f hj e he with rfl | ⟨i, hij, hi⟩
    · obtain ⟨y, l, g1, g2, g3⟩ := h1 e0 hm0
      refine ⟨x, l, by rw [hfk, hx], by rw [hfk]; exact g2, ?_⟩
      unfold upd; rw [if_pos rfl, hfv]
    · obtain ⟨y, l, g1, g2, g3⟩ := h1 e (List.mem_of_getElem? hi)
      refine ⟨y, l, g1, g2, ?_⟩
      have hyx : ¬ y = x := fun h => by
        subst h
        have hp := ((stamped_iff es clock).1 hs).2.2
        rw [List.pairwise_iff_getElem] at hp
        obtain ⟨hil, e1⟩ := List.getElem?_eq_some_iff.1 hi
        obtain ⟨hjl, e2⟩ := List.getElem?_eq_some_iff.1 hj
        have ek : es.toList[i].key = es.toList[j].key := by rw [e1, e2, g1, hx]
        rcases Nat.lt_or_gt_of_ne hij with h | h
        · exact hp i j hil hjl h ek
        · exact hp j i hjl hil h ek.symm
      unfold upd; rw [if_neg hyx]; exact g3
  · intro y u hu
    unfold upd at hu
    split at hu
    · rename_i hyx
      subst hyx
      exact ⟨f e0, mem_modify_at f hj, by rw [hfk, hx], by rw [hfv]; exact Option.some.inj hu⟩
    · rename_i hyx
      obtain ⟨e, he, g1, g2⟩ := h2 y u hu
      refine ⟨e, mem_modify_other f hj he (fun h => hyx ?_), g1, g2⟩
      subst h
      exact hinj _ _ (g1.symm.trans hx)
theorem own_push [DecidableEq κ] {es : Array MapEntry} (h1 : ∀ e ∈ es.toList, ∃ x l, e.key = enc x ∧ keyOf P k e.key = some l ∧ F x = some e.val) (h2 : ∀ x v, F x = some v → ∃ e ∈ es.toList, e.key = enc x ∧ e.val = v)
    {x : κ} {l : Lit} (hk : keyOf P k (enc x) = some l) (hno : ∀ e ∈ es.toList, e.key ≠ enc x) (v : Value) (n : Nat) :
    (∀ e ∈ (es.push ⟨enc x, v, n⟩).toList, ∃ y l, e.key = enc y ∧ keyOf P k e.key = some l ∧ upd F x v y = some e.val) ∧ (∀ y u, upd F x v y = some u → ∃ e ∈ (es.push ⟨enc x, v, n⟩).toList, e.key = enc y ∧ e.val = u) := by
  constructor
  · intro e he
    simp only [Array.toList_push, List.mem_append, List.mem_singleton] at he
    rcases he with he | rfl
    · obtain ⟨y, l', g1, g2, g3⟩ := h1 e he
      refine ⟨y, l', g1, g2, ?_⟩
      unfold upd
      rw [if_neg (fun h => hno e he (by rw [g1, h]))]; exact g3
    · exact ⟨x, l, rfl, hk, by unfold upd; rw [if_pos rfl]⟩
  · intro y u hu
    simp only [Array.toList_push, List.mem_append, List.mem_singleton]
    unfold upd at hu
    split at hu
    · rename_i hyx
      subst hyx
      exact ⟨_, .inr rfl, rfl, Option.some.inj hu⟩
    · obtain ⟨e, he, g1, g2⟩ := h2 y u hu
      exact ⟨e, .inl he, g1, g2⟩
theorem grown_setBlock {w : World} {b : Nat} {es : Array MapEntry} {clock : Nat} (hb : w.heap[b]? = some (.map es clock)) (o : Obj) : w.grownBy (setBlock w b o) (some b) :=
  ⟨rfl, rfl, rfl, by simp [setBlock], fun i _ hi => heap_setBlock_other hb _ (fun e => hi (by rw [e]))⟩

theorem OwnM.put [DecidableEq κ] (h : OwnM w P k enc b F) (K : Keyed P k) (hinj : ∀ x y, enc x = enc y → x = y) {t e : TypeId} (ht : P.underlying t = some (.map k e)) {x : κ} {l : Lit} (hk : keyOf P k (enc x) = some l) (v : Value) :
    ∃ w', (Instr.mapUpdate t (.map (some b)) (enc x) v).run P w = .ok () w' ∧ OwnM w' P k enc b (upd F x v) ∧ w.grownBy w' (some b) := by
  obtain ⟨es, clock, hb, hs, h1, h2⟩ := h
  rcases K.find w hk es.toList (fun e he => by obtain ⟨_, l, _, h, _⟩ := h1 e he; exact ⟨l, h⟩) with ⟨f1, f2⟩ | ⟨j, e0, f1, f2, f3⟩
  · refine ⟨setBlock w b (.map (es.push ⟨enc x, v, clock⟩) (clock + 1)), ?_, ⟨_, _, heap_setBlock_same hb _, stamped_push hs f2, own_push h1 h2 hk f2 v clock⟩, grown_setBlock hb _⟩
    simp [Instr.mapUpdate, run_underlying ht, MapKept.run_getObj_map hb, K.check w false hk, f1, MapKept.run_setObj_map _ hb, Result.andThen, setBlock]
  · have hj : es[j]? = some e0 := by simpa using f2
    refine ⟨setBlock w b (.map (es.modify j (fun e' => { e' with key := enc x, val := v })) clock), ?_, ⟨_, _, heap_setBlock_same hb _, stamped_modify hs _ _ (fun _ _ => rfl) (fun e' _ he' => by rw [hj] at he'; cases he'; exact f3.symm), own_modify hs h1 h2 hinj f2 f3 _ f3.symm rfl⟩, grown_setBlock hb _⟩
    simp [Instr.mapUpdate, run_underlying ht, MapKept.run_getObj_map hb, K.check w false hk, f1, hj, f3, K.stays w hk, MapKept.run_setObj_map _ hb, Result.andThen, setBlock]

theorem OwnM.entry [DecidableEq κ] (h : OwnM w P k enc b F) (K : Keyed P k) (hinj : ∀ x y, enc x = enc y → x = y) {t e : TypeId} (ht : P.underlying t = some (.map k e)) {z : Value} (hz : (zeroValue e).run P w = .ok z w) {x : κ} {l : Lit} (hk : keyOf P k (enc x) = some l) :
    ∃ (w' : World) (n : Nat), (Instr.mapEntry t (.map (some b)) (enc x)).run P w = .ok (.tuple #[(F x).getD z, goInt n]) w' ∧ OwnE w' P k enc b (upd F x ((F x).getD z)) x n ∧ w.grownBy w' (some b) := by
  obtain ⟨es, clock, hb, hs, h1, h2⟩ := h
  rcases K.find w hk es.toList (fun e he => by obtain ⟨_, l, _, h, _⟩ := h1 e he; exact ⟨l, h⟩) with ⟨f1, f2⟩ | ⟨j, e0, f1, f2, f3⟩
  · have hF : F x = none := by
      cases hx : F x with
      | none => rfl
      | some v => obtain ⟨e, he, hke, _⟩ := h2 x v hx; exact absurd hke (f2 e he)
    rw [hF]
    obtain ⟨p1, p2⟩ := own_push h1 h2 hk f2 z clock
    refine ⟨setBlock w b (.map (es.push ⟨enc x, z, clock⟩) (clock + 1)), clock, ?_, ⟨_, _, heap_setBlock_same hb _, stamped_push hs f2, p1, p2, ⟨enc x, z, clock⟩, by simp, rfl, rfl⟩, grown_setBlock hb _⟩
    simp [Instr.mapEntry, run_underlying ht, MapKept.run_getObj_map hb, K.check w false hk, f1, hz, MapKept.run_setObj_map _ hb, Result.andThen, setBlock]
  · have hj : es[j]? = some e0 := by simpa using f2
    have hm0 := List.mem_of_getElem? f2
    obtain ⟨y, l', g1, g2, g3⟩ := h1 e0 hm0
    obtain rfl : y = x := hinj _ _ (g1.symm.trans f3)
    rw [g3]
    obtain ⟨p1, p2⟩ := own_modify (F := F) hs h1 h2 hinj f2 f3 (fun e' => { e' with key := enc y }) f3.symm (v := e0.val) rfl
    refine ⟨setBlock w b (.map (es.modify j (fun e' => { e' with key := enc y })) clock), e0.born, ?_, ⟨_, _, heap_setBlock_same hb _, stamped_modify hs _ _ (fun _ _ => rfl) (fun e' _ he' => by rw [hj] at he'; cases he'; exact f3.symm), p1, p2, { e0 with key := enc y }, mem_modify_at _ f2, rfl, rfl⟩, grown_setBlock hb _⟩
    simp [Instr.mapEntry, run_underlying ht, MapKept.run_getObj_map hb, K.check w false hk, f1, hj, f3, K.stays w hk, MapKept.run_setObj_map _ hb, Result.andThen, setBlock]

theorem OwnE.store [DecidableEq κ] {x : κ} {n : Nat} (h : OwnE w P k enc b F x n) (hinj : ∀ x y, enc x = enc y → x = y) (t : TypeId) (v : Value) :
    ∃ w', (Instr.entryStore t (.map (some b)) (goInt n) v).run P w = .ok () w' ∧ OwnM w' P k enc b (upd F x v) ∧ w.grownBy w' (some b) := by
  obtain ⟨es, clock, hb, hs, h1, h2, e0, he0, hx, hn⟩ := h
  obtain ⟨j, hjl, ej⟩ := List.getElem_of_mem he0
  have hnd := ((stamped_iff es clock).1 hs).2.1
  have hidx : es.findIdx? (fun e => (e.born : Int) == (n : Int)) = some j := by
    rw [Array.findIdx?_eq_some_iff_getElem]
    refine ⟨by simpa using hjl, by have : es[j]'(by simpa using hjl) = e0 := by simpa using ej
                                   rw [this]; simp [hn], fun i hi => ?_⟩
    have hne : es.toList[i].born ≠ es.toList[j].born := by
      have hp := hnd
      rw [List.Nodup, List.pairwise_map, List.pairwise_iff_getElem] at hp
      exact hp i j (by omega) hjl hi
    rw [ej, hn] at hne
    have h2 : ¬ ((es[i]'(by have := hjl; simp at this; omega)).born : Int) = (n : Int) := fun h => hne (by simpa using Int.ofNat.inj h)
    simpa using h2
  have f2 : es.toList[j]? = some e0 := by rw [List.getElem?_eq_getElem hjl, ej]
  refine ⟨setBlock w b (.map (es.modify j (fun e' => { e' with val := v })) clock), ?_, ⟨_, _, heap_setBlock_same hb _, stamped_modify hs _ _ (fun _ _ => rfl) (fun _ _ _ => rfl), own_modify hs h1 h2 hinj f2 hx (fun e' => { e' with val := v }) rfl rfl⟩, grown_setBlock hb _⟩
  simp [Instr.entryStore, goInt, asInt, asIntOf, MapKept.run_getObj_map hb, hidx, MapKept.run_setObj_map _ hb, Result.andThen, setBlock]
end
end Go.Proofs.YtpmblbhemcippaaGreatDoor

/-
  The keys of this program's maps: strings, numbers, and the two structs of package check; the elements' zero values.
-/
namespace Go.Proofs.YtpmblbhemcippaaGreatDoor
open Go.RowKit
open Go.Maps (Keyed)
set_option linter.unusedVariables false
set_option linter.unusedSimpArgs false

theorem lay0 : laidOutB Tryz.prog = true := by kernel_rfl
abbrev KeyV := ByteArray × Int × Int × ByteArray
abbrev EndV := ByteArray × Int
def encS (s : ByteArray) : Value := .string s
def encI (n : Int) : Value := .int .i64 n
def encQ (x : KeyV) : Value := .agg #[.string x.1, .int .i64 x.2.1, .int .i64 x.2.2.1, .string x.2.2.2]
def encE (x : EndV) : Value := .agg #[.string x.1, .int .i64 x.2]
theorem encS_inj : ∀ x y, encS x = encS y → x = y := fun x y h => by simpa [encS] using h
theorem encI_inj : ∀ x y, encI x = encI y → x = y := fun x y h => by simpa [encI] using h
theorem encQ_inj : ∀ x y, encQ x = encQ y → x = y := fun x y h => by
  obtain ⟨a, b, c, d⟩ := x
  obtain ⟨a', b', c', d'⟩ := y
  simpa [encQ] using h
theorem encE_inj : ∀ x y, encE x = encE y → x = y := fun x y h => by
  obtain ⟨a, b⟩ := x
  obtain ⟨a', b'⟩ := y
  simpa [encE] using h
theorem keyedS : Keyed Tryz.prog 9 := Go.Maps.string_keyed Tryz.underlying9
theorem keyedI : Keyed Tryz.prog 3 := Go.Maps.int_keyed Tryz.underlying3
theorem keyedK : Keyed Tryz.prog 247 := Keyed.of_law (deep_law_laid lay0 (m := 4) (by omega) (of_decide_eq_true (by kernel_rfl)) (by kernel_rfl) (by rw [Tryz.underlying247]))
theorem keyedE : Keyed Tryz.prog 183 := Keyed.of_law (deep_law_laid lay0 (m := 4) (by omega) (of_decide_eq_true (by kernel_rfl)) (by kernel_rfl) (by rw [Tryz.underlying183]))
theorem zero76 (w : World) : (zeroValue 176).run Tryz.prog w = .ok (.agg #[.slice none 0 0, .slice none 0 0, .slice none 0 0]) w := by kernel_rfl
theorem zero72 (w : World) : (zeroValue 34).run Tryz.prog w = .ok (.agg #[.string ⟨#[]⟩, .string ⟨#[]⟩, .string ⟨#[]⟩, .int .i64 0, .int .i64 0]) w := by kernel_rfl
theorem zero3 (w : World) : (zeroValue 3).run Tryz.prog w = .ok (.int .i64 0) w := by kernel_rfl
def in64 (n : Int) : Prop := (Lit.int .i64 n).wf = true
theorem in64_of {n : Int} (h1 : -9223372036854775808 ≤ n) (h2 : n ≤ 9223372036854775807) : in64 n := by
  unfold in64
  have e1 : IntKind.i64.min = -9223372036854775808 := by decide
  have e2 : IntKind.i64.max = 9223372036854775807 := by decide
  simp [Lit.wf, e1, e2]
  omega
theorem keyS {s : ByteArray} (h : s.size ≤ maxLen) : ∃ l, keyOf Tryz.prog 9 (encS s) = some l := ⟨_, by
  unfold keyOf
  rw [Tryz.underlying9]
  simp only [encS, mapKey, Tryz.underlying9]
  rw [if_pos h]⟩
theorem keyI {n : Int} (h : in64 n) : ∃ l, keyOf Tryz.prog 3 (encI n) = some l := ⟨_, Go.Maps.keyOf_int_mk Tryz.underlying3 h⟩
theorem kt106 : Tryz.prog.keyType 247 = true := by kernel_rfl
theorem kt83 : Tryz.prog.keyType 183 = true := by kernel_rfl
theorem co106 : Tryz.prog.cellsOf 247 = 4 := by kernel_rfl
theorem co48 : Tryz.prog.cellsOf 36 = 3 := by kernel_rfl
theorem co83 : Tryz.prog.cellsOf 183 = 2 := by kernel_rfl
theorem co9 : Tryz.prog.cellsOf 9 = 1 := by kernel_rfl
theorem co3 : Tryz.prog.cellsOf 3 = 1 := by kernel_rfl
theorem tys : Tryz.prog.types.size + 1 = 289 := by kernel_rfl
theorem klS (d : Nat) {s : ByteArray} (h : s.size ≤ maxLen) : Tryz.prog.keyLits (d + 1) 9 [.string s] = some [.string s.data.toList] := by
  simp only [Program.keyLits, Tryz.underlying9]; rw [if_pos h]
theorem klI (d : Nat) {n : Int} (h : in64 n) : Tryz.prog.keyLits (d + 1) 3 [.int .i64 n] = some [.int .i64 n] := by
  unfold in64 at h
  simp only [Program.keyLits, Tryz.underlying3]; rw [if_pos ⟨trivial, h⟩]
theorem kl83 (d : Nat) {s : ByteArray} {n : Int} (h1 : s.size ≤ maxLen) (h2 : in64 n) : Tryz.prog.keyLits (d + 2) 183 [.string s, .int .i64 n] = some [.string s.data.toList, .int .i64 n] := by
  conv => lhs; unfold Program.keyLits
  rw [Tryz.underlying183]
  simp [co83, co9, co3, klS _ h1, klI _ h2]
theorem kl48 (d : Nat) {t n : Int} {s : ByteArray} (h1 : in64 t) (h2 : in64 n) (h3 : s.size ≤ maxLen) : Tryz.prog.keyLits (d + 2) 36 [.int .i64 t, .int .i64 n, .string s] = some [.int .i64 t, .int .i64 n, .string s.data.toList] := by
  conv => lhs; unfold Program.keyLits
  rw [Tryz.underlying36]
  simp [co48, co9, co3, klS _ h3, klI _ h2, klI _ h1]
theorem kl106 (d : Nat) {f s : ByteArray} {t n : Int} (h0 : f.size ≤ maxLen) (h1 : in64 t) (h2 : in64 n) (h3 : s.size ≤ maxLen) : Tryz.prog.keyLits (d + 3) 247 [.string f, .int .i64 t, .int .i64 n, .string s] = some [.string f.data.toList, .int .i64 t, .int .i64 n, .string s.data.toList] := by
  conv => lhs; unfold Program.keyLits
  rw [Tryz.underlying247]
  simp [co106, co48, co9, klS _ h0, kl48 _ h1 h2 h3]
theorem keyE {x : EndV} (h1 : x.1.size ≤ maxLen) (h2 : in64 x.2) : ∃ l, keyOf Tryz.prog 183 (encE x) = some l := by
  have hf : (encE x).formed Tryz.prog 183 = true := by simp [encE, Value.formed, Tryz.underlying183, co83]
  unfold keyOf
  rw [Tryz.underlying183, kt83, hf, tys]
  have := kl83 287 h1 h2
  simp only [Bool.and_self, if_true]
  rw [show (encE x).cells.toList = [.string x.1, .int .i64 x.2] from rfl, show (289 : Nat) = 287 + 2 from rfl, this]
  exact ⟨_, rfl⟩
theorem keyK {x : KeyV} (h1 : x.1.size ≤ maxLen) (h2 : in64 x.2.1) (h3 : in64 x.2.2.1) (h4 : x.2.2.2.size ≤ maxLen) : ∃ l, keyOf Tryz.prog 247 (encQ x) = some l := by
  have hf : (encQ x).formed Tryz.prog 247 = true := by simp [encQ, Value.formed, Tryz.underlying247, co106]
  unfold keyOf
  rw [Tryz.underlying247, kt106, hf, tys]
  have := kl106 286 h1 h2 h3 h4
  simp only [Bool.and_self, if_true]
  rw [show (encQ x).cells.toList = [.string x.1, .int .i64 x.2.1, .int .i64 x.2.2.1, .string x.2.2.2] from rfl, show (289 : Nat) = 286 + 3 from rfl, this]
  exact ⟨_, rfl⟩
end Go.Proofs.YtpmblbhemcippaaGreatDoor
