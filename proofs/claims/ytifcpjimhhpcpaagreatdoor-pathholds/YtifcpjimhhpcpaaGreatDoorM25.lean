/-
  The walks of Out and In.
-/
import Derived.Test.YtifcpjimhhpcpaaGreatDoorM23
import Derived.Test.YtifcpjimhhpcpaaGreatDoorM24
import Derived.Laws.AppendOwnNone
import Derived.Lib.Hide
namespace Go.Proofs.YtifcpjimhhpcpaaGreatDoor
open Go.RowKit
set_option linter.unusedVariables false
set_option linter.unusedSimpArgs false

/-- A tie of this bond. -/
def Te.hit (bd : ByteArray) (t : Te) : Bool := t.bd.toList == bd.toList
/-- The ends of ties that go out. -/
def outs (T : List Te) (bd : ByteArray) (a : Int) : List Int := (T.filter fun t => t.hit bd && t.fr == a).map (·.tt)
def cellsI (L : List Int) : List Value := L.map fun x => .int .i64 x
theorem cellsI_app (L M : List Int) : cellsI (L ++ M) = cellsI L ++ cellsI M := by simp [cellsI]
theorem infoI : (Tryz.prog.info? 3).map (fun i => (i.zero, i.size, i.bytes)) = some (some (.int .i64 0), 1, 8) := by kernel_rfl
theorem takeT {T : List Te} {k : Nat} {t : Te} (h : T[k]? = some t) : T.take (k + 1) = T.take k ++ [t] := by
  obtain ⟨hk, rfl⟩ := List.getElem?_eq_some_iff.1 h
  rw [List.take_succ_eq_append_getElem hk]
theorem outs_hit {T : List Te} {k : Nat} {t : Te} (h : T[k]? = some t) {bd : ByteArray} {a : Int} (h1 : t.hit bd = true) (h2 : t.fr = a) : outs (T.take (k + 1)) bd a = outs (T.take k) bd a ++ [t.tt] := by
  rw [takeT h]; unfold outs; rw [List.filter_append, List.map_append]; simp [h1, h2]
theorem outs_miss {T : List Te} {k : Nat} {t : Te} (h : T[k]? = some t) {bd : ByteArray} {a : Int} (h1 : t.hit bd = false ∨ ¬ t.fr = a) : outs (T.take (k + 1)) bd a = outs (T.take k) bd a := by
  rw [takeT h]; unfold outs; rw [List.filter_append, List.map_append]
  rcases h1 with h1 | h1 <;> simp [h1]
theorem outs_le (T : List Te) (bd : ByteArray) (a : Int) : (outs T bd a).length ≤ T.length := by unfold outs; rw [List.length_map]; exact List.length_filter_le _ _
/-- Where the loop of Out, or of In, stands: L k is what has come of k ties. -/
def OAt (w : World) (n : Nat) (L : Nat → List Int) (v i : Value) (wr : World) : Prop :=
  ∃ k : Nat, k ≤ n ∧ i = .int .i64 k ∧ wr.ownsRow w.heap.size 3 1 v (L k).length (cellsI (L k)) ∧ Below w.heap.size w wr
set_option maxHeartbeats 2000000 in
set_option maxRecDepth 100000 in
theorem out_any {vn vt : Value} {N : List Nd} {T : List Te} {w : World} (hN : IsN w vn N) (hT : IsT w vt T) (zN : SzN N) (zT : SzT T) (lN : N.length ≤ maxLen) (lT : T.length ≤ maxLen) (id : Int) (bd : ByteArray) :
    Calls Tryz.prog 8 #[.agg #[vn, vt], .int .i64 id, .string bd] w fun e w' => ∃ v, e = .returned (.tuple #[v, errV (fE N T id)]) ∧ (fE N T id = 0 → w'.ownsRow w.heap.size 3 1 v (outs T bd id).length (cellsI (outs T bd id))) ∧ (¬ fE N T id = 0 → v = .slice none 0 0) ∧ Below w.heap.size w w' := by
  obtain ⟨i0, hi0, hz0, hz1, hz2⟩ := info_parts infoI
  have hN' := hN
  obtain ⟨an, cn, rfl, hcn, hn⟩ := hN
  have hT' := hT
  obtain ⟨am, cm, rfl, hcm, hm⟩ := hT
  have hB : Below w.heap.size w (w.alloc (.cells #[.slice an N.length cn, .slice am T.length cm] 29)) := b_alloc (Below.refl _ _) _
  have cc := find_any (hN'.on hB) (hT'.on hB) zN zT lN lT id
  by_cases hf : fE N T id = 0
  · have hT0 : T.length ≤ 120 := by
      by_cases hg : gErr N T = 0
      · exact (gErr_len hg).2
      · rw [fE_bad id hg] at hf; exact absurd hf hg
    have HF : Hid (fE N T id = 0) := hf
    have HM : Hid (T = [] ∨ ∃ b off, am = some ⟨b, off, none⟩ ∧ b < w.heap.size ∧ LiesT w b off T) := hm
    rw [hf, errV_0] at cc
    have hg1 : (w.alloc (.cells #[.slice an N.length cn, .slice am T.length cm] 29)).cell? ⟨w.heap.size, 1, none⟩ = some (.slice am T.length cm) := by simp
    have HG : Hid (∀ W, Below (w.alloc (.cells #[.slice an N.length cn, .slice am T.length cm] 29)).heap.size (w.alloc (.cells #[.slice an N.length cn, .slice am T.length cm] 29)) W → W.cell? ⟨w.heap.size, 1, none⟩ = some (.slice am T.length cm)) := fun W hW => (hW.cell (by simp)).trans hg1
    clear hn hm hg1 hf hN' hT'
    go_enter Tryz.func8, Tryz.ntmps8
    go_wp2_with (first | (go_at_call 19; refine cc.mono ?_; rintro e W1 ⟨x, rfl, hB1⟩; have k0 := HG.out W1 hB1))
    have HW : Hid (Below w.heap.size w W1) := on1 hB hB1
    clear cc hB hB1 HG
    go_loopw [10, 25] (fun v i wr => OAt W1 T.length (fun k => outs (T.take k) bd id) v i wr) (fun _ i _ => T.length - (intOf i).toNat)
    case atStart => exact ⟨0, Nat.zero_le _, rfl, World.ownsRow_nil _ _ _ _, Below.refl _ _⟩
    case round =>
      obtain ⟨k, hk, rfl, ho, hB⟩ := hrel
      by_cases hlt : k < T.length
      · obtain ⟨t, ht⟩ : ∃ t, T[k]? = some t := ⟨T[k], by simp [hlt]⟩
        rcases HM.out with rfl | ⟨b, off, rfl, hb, hL⟩
        · exact absurd hlt (by simp)
        obtain ⟨c0, c1, c2⟩ := hL k t ht
        have hbw : Below w.heap.size w wr := on1 HW.out hB
        have d0 := (hbw.cell (p := ⟨b, off + k * 3, none⟩) hb).trans c0
        have d1 := (hbw.cell (p := ⟨b, off + k * 3 + 1, none⟩) hb).trans c1
        have d2 := (hbw.cell (p := ⟨b, off + k * 3 + 2, none⟩) hb).trans c2
        have hbr : b < wr.heap.size := Nat.lt_of_lt_of_le hb hbw.size
        have hbn : ¬ b = wr.heap.size := by omega
        have HP : Hid (T[k]? = some t) := ht
        clear c0 c1 c2 hL ht hbw
        obtain ⟨tb, tf, tt⟩ := t
        simp only at d0 d1 d2
        have HR : Hid (Below W1.heap.size W1 (wr.alloc (.cells #[.string tb, .int .i64 tf, .int .i64 tt] 82)) ∧ (wr.alloc (.cells #[.string tb, .int .i64 tf, .int .i64 tt] 82)).ownsRow W1.heap.size 3 1 u10 (outs (T.take k) bd id).length (cellsI (outs (T.take k) bd id))) := ⟨b_alloc hB _, ho.alloc _⟩
        by_cases hh : (tb.toList == bd.toList) = true ∧ tf = id
        · obtain ⟨h1, h2⟩ := hh
          have HE : Hid (outs (T.take (k + 1)) bd id = outs (T.take k) bd id ++ [tt]) := outs_hit HP.out h1 h2
          have h3 : (tf == id) = true := by simpa using h2
          have hle : (outs (T.take k) bd id).length ≤ k := Nat.le_trans (outs_le _ _ _) (List.length_take_le _ _)
          have HL : Hid ((outs (T.take k) bd id).length + 1 ≤ maxLen ∧ ((outs (T.take k) bd id).length + 1) * 8 ≤ 140737488355328) := by
            unfold maxLen; exact ⟨by omega, by omega⟩
          have HO : Hid (((wr.alloc (.cells #[.string tb, .int .i64 tf, .int .i64 tt] 82)).alloc (.cells #[.int .i64 tt] 3)).ownsRow W1.heap.size 3 1 u10 (outs (T.take k) bd id).length (cellsI (outs (T.take k) bd id)) ∧ Below W1.heap.size W1 ((wr.alloc (.cells #[.string tb, .int .i64 tf, .int .i64 tt] 82)).alloc (.cells #[.int .i64 tt] 3))) := ⟨HR.out.2.alloc _, b_alloc HR.out.1 _⟩
          clear hle ho hB HR h2
          go_wp2_with (at_builtin; refine wpList_append_own _ rfl (.tmp 39) (.tmp 42) 47 rfl W1.heap.size 3 i0 _ 1 8 Tryz.underlying47 hi0 hz0 hz1 hz2 rfl (by decide) u10 (outs (T.take k) bd id).length (cellsI (outs (T.take k) bd id)) rfl HO.out.1 ⟨wr.heap.size + 1, 0, none⟩ 1 1 [.int .i64 tt] (by simp [Act.eval]) rfl (by have := new_at (wr.alloc (.cells #[.string tb, .int .i64 tf, .int .i64 tt] 82)) [.int .i64 tt] 3; simpa using this) (by simp [Value.oneCell']) HL.out.1 HL.out.2 HO.out.2.size ?_; intro v1 w1 hown1 hgrow1 _; refine Hid.out ?_)
          refine Lib.hid ?_
          have HRR : Hid (OAt W1 T.length (fun k => outs (T.take k) bd id) v1 (.int .i64 ((k + 1 : Nat) : Int)) w1) := by
            refine ⟨k + 1, by omega, rfl, ?_, HO.out.2.grown hgrow1 HO.out.2.size (fun k hk => (HO.out.1.lt k hk).1)⟩
            simp only
            rw [HE.out, List.length_append, cellsI_app]
            exact hown1
          clear hown1
          go_wp2
          refine ⟨?_, ?_⟩
          · first | exact HRR.out | ((repeat apply Exists.intro); refine ⟨?_, rfl⟩; exact HRR.out)
          · simp [intOf]
            try omega
        · have HE : Hid (outs (T.take (k + 1)) bd id = outs (T.take k) bd id) := outs_miss HP.out (by
            by_cases h1 : (tb.toList == bd.toList) = true
            · exact .inr fun h2 => hh ⟨h1, h2⟩
            · exact .inl (by simpa [Te.hit] using h1))
          have HRR : Hid (OAt W1 T.length (fun k => outs (T.take k) bd id) u10 (.int .i64 ((k + 1 : Nat) : Int)) (wr.alloc (.cells #[.string tb, .int .i64 tf, .int .i64 tt] 82))) := by
            refine ⟨k + 1, by omega, rfl, ?_, HR.out.1⟩
            simp only
            rw [HE.out]
            exact HR.out.2
          clear ho hB HR HE
          by_cases h1 : (tb.toList == bd.toList) = true
          · have h3 : (tf == id) = false := by simpa using fun h2 => hh ⟨h1, h2⟩
            clear hh
            go_wp2
            refine ⟨?_, ?_⟩
            · first | exact HRR.out | ((repeat apply Exists.intro); refine ⟨?_, rfl⟩; exact HRR.out)
            · simp [intOf]
              try omega
          · have h1' : (tb.toList == bd.toList) = false := by simpa using h1
            clear hh h1
            go_wp2
            refine ⟨?_, ?_⟩
            · first | exact HRR.out | ((repeat apply Exists.intro); refine ⟨?_, rfl⟩; exact HRR.out)
            · simp [intOf]
              try omega
      · have hke : T.take k = T := List.take_of_length_le (by omega)
        simp only at ho
        rw [hke] at ho
        have HO : Hid (wr.ownsRow W1.heap.size 3 1 u10 (outs T bd id).length (cellsI (outs T bd id)) ∧ Below W1.heap.size W1 wr) := ⟨ho, hB⟩
        clear ho hB hke
        go_wp2
        go_ret2
        exact ⟨_, ret_v (by rw [HF.out]; rfl), fun _ => own_base HO.out.1 HW.out.size, fun h => absurd HF.out h, on1 HW.out HO.out.2⟩
  · have HF : Hid (¬ fE N T id = 0) := hf
    rw [errV_ne hf] at cc
    clear hf hn hm
    go_enter Tryz.func8, Tryz.ntmps8
    go_wp2_with (first | (go_at_call 19; refine cc.mono ?_; rintro e W1 ⟨x, rfl, hB1⟩))
    go_ret2
    exact ⟨.slice none 0 0, ret_v (by rw [errV_ne HF.out]; rfl), fun h => absurd h HF.out, fun _ => rfl, on1 hB hB1⟩
end Go.Proofs.YtifcpjimhhpcpaaGreatDoor

/-
  Lists of integers as they lie there; Out, and kinref2.In.
-/
namespace Go.Proofs.YtifcpjimhhpcpaaGreatDoor
open Go.RowKit
set_option linter.unusedVariables false
set_option linter.unusedSimpArgs false

/-- The value is this list of integers. -/
def IsI (w : World) (v : Value) (L : List Int) : Prop :=
  (v = .slice none 0 0 ∧ L = []) ∨ ∃ b cap, v = .slice (some ⟨b, 0, none⟩) L.length cap ∧ L.length ≤ cap ∧ b < w.heap.size ∧ ∀ k x, L[k]? = some x → w.cell? ⟨b, k, none⟩ = some (.int .i64 x)
theorem IsI.on {w w' : World} {v : Value} {L : List Int} (h : IsI w v L) (hB : Below w.heap.size w w') : IsI w' v L := by
  rcases h with h | ⟨b, cap, rfl, hc, hb, hl⟩
  · exact .inl h
  · exact .inr ⟨b, cap, rfl, hc, Nat.lt_of_lt_of_le hb hB.size, fun k x hx => (hB.cell hb).trans (hl k x hx)⟩
theorem own_isI {w : World} {base : Nat} {v : Value} {M : List Int} (h : w.ownsRow base 3 1 v M.length (cellsI M)) : IsI w v M := by
  have hc : ∀ g, v.ownBlock = some g → ∀ j u, (cellsI M)[j]? = some u → w.cell? ((⟨g, 0, none⟩ : Addr).add j) = some u := fun g hg => h.cells hg
  rcases h.2 with ⟨rfl, h0⟩ | ⟨g, cap, cur, rfl, hb, hg, hle, hcm, hcs, ht⟩
  · exact .inl ⟨rfl, List.eq_nil_of_length_eq_zero h0⟩
  · refine .inr ⟨g, cap, rfl, hle, (Array.getElem?_eq_some_iff.1 hg).1, fun k p hp => ?_⟩
    have d0 := hc g rfl k (.int .i64 p) (by simp [cellsI, hp])
    rw [Addr.add_lit, Nat.zero_add] at d0
    exact d0
/-- What Out, and In, come to. -/
def outL (N : List Nd) (T : List Te) (bd : ByteArray) (id : Int) : List Int := if fE N T id = 0 then outs T bd id else []
theorem out_all {vn vt : Value} {N : List Nd} {T : List Te} {w : World} (hN : IsN w vn N) (hT : IsT w vt T) (zN : SzN N) (zT : SzT T) (lN : N.length ≤ maxLen) (lT : T.length ≤ maxLen) (id : Int) (bd : ByteArray) :
    Calls Tryz.prog 8 #[.agg #[vn, vt], .int .i64 id, .string bd] w fun e w' => ∃ v, e = .returned (.tuple #[v, errV (fE N T id)]) ∧ IsI w' v (outL N T bd id) ∧ Below w.heap.size w w' := by
  refine (out_any hN hT zN zT lN lT id bd).mono ?_
  rintro e w' ⟨v, rfl, h1, h2, hB⟩
  refine ⟨v, rfl, ?_, hB⟩
  unfold outL
  by_cases hf : fE N T id = 0
  · rw [if_pos hf]; exact own_isI (h1 hf)
  · rw [if_neg hf, h2 hf]; exact .inl ⟨rfl, rfl⟩
theorem IsI.sl {w : World} {v : Value} {L : List Int} (h : IsI w v L) : ∃ ao c, v = .slice ao L.length c := by
  rcases h with ⟨rfl, rfl⟩ | ⟨b, cap, rfl, _⟩
  · exact ⟨_, _, rfl⟩
  · exact ⟨_, _, rfl⟩

set_option maxHeartbeats 1000000 in
theorem rin_nil (n : Int) (w : World) : Calls Tryz.prog 10 #[.slice none 0 0, .int .i64 n] w fun e w' => e = .returned (.bool false) ∧ w' = w := by
  go_enter Tryz.func10, Tryz.ntmps10
  go_wp2
  go_loopw [5] (fun i wr => i = .int .i64 0 ∧ wr = w) (fun i _ => 0)
  case atStart => exact ⟨rfl, rfl⟩
  case round =>
    obtain ⟨rfl, rfl⟩ := hrel
    go_wp2
    go_ret
    exact ⟨rfl, rfl⟩
/-- Where the loop of kinref2.In stands. -/
def RInAt (L : List Int) (n : Int) (w : World) (i : Value) (wr : World) : Prop := ∃ k : Nat, k ≤ L.length ∧ i = .int .i64 k ∧ L.contains n = (L.drop k).contains n ∧ wr = w
set_option maxHeartbeats 1000000 in
set_option maxRecDepth 100000 in
theorem rin_some (L : List Int) (b cap : Nat) (n : Int) (w : World) (hm : L.length ≤ 5000) (hl : ∀ k x, L[k]? = some x → w.cell? ⟨b, k, none⟩ = some (.int .i64 x)) :
    Calls Tryz.prog 10 #[.slice (some ⟨b, 0, none⟩) L.length cap, .int .i64 n] w fun e w' => e = .returned (.bool (L.contains n)) ∧ w' = w := by
  obtain ⟨r, hr⟩ : ∃ r, L.contains n = r := ⟨_, rfl⟩
  have HR : Hid (L.contains n = r) := hr
  rw [hr]
  clear hr
  have HL : Hid (∀ k x, L[k]? = some x → w.cell? ⟨b, k, none⟩ = some (.int .i64 x)) := hl
  clear hl
  go_enter Tryz.func10, Tryz.ntmps10
  go_wp2
  go_loopw [5] (fun i wr => RInAt L n w i wr) (fun i _ => L.length - (intOf i).toNat)
  case atStart => exact ⟨0, Nat.zero_le _, rfl, rfl, rfl⟩
  case round =>
    obtain ⟨k, hk, rfl, hx, rfl⟩ := hrel
    have HX : Hid (L.contains n = (L.drop k).contains n) := hx
    clear hx
    by_cases hlt : k < L.length
    · obtain ⟨x, hx⟩ : ∃ x, L[k]? = some x := ⟨L[k], by simp [hlt]⟩
      have d0 := HL.out k x hx
      have HD : Hid (L.drop k = x :: L.drop (k + 1)) := dropN hx
      clear hx
      by_cases he : x = n
      · have H : Hid (r = true) := by
          show _ = _
          rw [← HR.out, HX.out, HD.out]; simp [he]
        have hb' : (x == n) = true := by simpa using he
        clear HX HD
        go_wp2
        go_ret
        exact ⟨ret_bool H.out.symm, rfl⟩
      · have H : Hid (RInAt L n wr (.int .i64 ((k + 1 : Nat) : Int)) wr) := by
          refine ⟨k + 1, by omega, rfl, ?_, rfl⟩
          rw [HX.out, HD.out, List.contains_cons]
          have : (n == x) = false := by simpa using fun h => he h.symm
          rw [this, Bool.false_or]
        have hb' : (x == n) = false := by simpa using he
        clear HX HD
        go_wp2
        refine ⟨?_, ?_⟩
        · first | exact H.out | ((repeat apply Exists.intro); refine ⟨?_, rfl⟩; exact H.out)
        · simp [intOf]
          try omega
    · have hd : L.drop k = [] := List.drop_eq_nil_of_le (by omega)
      have H : Hid (r = false) := by
        show _ = _
        rw [← HR.out, HX.out, hd]; rfl
      clear HX hd
      go_wp2
      go_ret
      exact ⟨ret_bool H.out.symm, rfl⟩
theorem rin_any {v : Value} {L : List Int} {w : World} (h : IsI w v L) (hm : L.length ≤ 5000) (n : Int) : Calls Tryz.prog 10 #[v, .int .i64 n] w fun e w' => e = .returned (.bool (L.contains n)) ∧ w' = w := by
  rcases h with ⟨rfl, rfl⟩ | ⟨b, cap, rfl, _, _, hl⟩
  · exact rin_nil n w
  · exact rin_some L b cap n w hm hl
end Go.Proofs.YtifcpjimhhpcpaaGreatDoor

/-
  The walk of graph.Node.
-/
namespace Go.Proofs.YtifcpjimhhpcpaaGreatDoor
open Go.RowKit
set_option linter.unusedVariables false
set_option linter.unusedSimpArgs false

theorem idxN_at (id : Int) : ∀ (N : List Nd) (s : Nat), hasId N id = true → ∃ k n, N[k]? = some n ∧ idxN id N s = ((s + k : Nat) : Int)
  | [], s, h => by simp [hasId] at h
  | n :: r, s, h => by
    by_cases e : n.id = id
    · exact ⟨0, n, rfl, by simp [idxN, e]⟩
    · have h' : hasId r id = true := by
        unfold hasId at h ⊢
        rw [List.any_cons, Bool.or_eq_true] at h
        rcases h with h | h
        · exact absurd (by simpa using h) e
        · exact h
      obtain ⟨k, x, hk, hx⟩ := idxN_at id r (s + 1) h'
      refine ⟨k + 1, x, by simpa using hk, ?_⟩
      have : idxN id (n :: r) s = idxN id r (s + 1) := by simp [idxN, e]
      rw [this, hx]
      congr 1
      omega

set_option maxHeartbeats 1000000 in
set_option maxRecDepth 100000 in
theorem find_ok {vn vt : Value} {N : List Nd} {T : List Te} {w : World} (hN : IsN w vn N) (hT : IsT w vt T) (zN : SzN N) (zT : SzT T) (hg : gErr N T = 0) (id : Int) (hh : hasId N id = true) :
    Calls Tryz.prog 19 #[.agg #[vn, vt], .int .i64 id] w fun e w' => e = .returned (.tuple #[.int .i64 (idxN id N 0), .nilIface]) ∧ Below w.heap.size w w' := by
  have hN' := hN
  obtain ⟨an, cn, rfl, hcn, hn⟩ := hN
  have hT' := hT
  obtain ⟨am, cm, rfl, hcm, hm⟩ := hT
  have hB : Below w.heap.size w ((w.alloc (.cells #[.slice an N.length cn, .slice am T.length cm] 29)).alloc (.cells #[.int .i64 id] 3)) := b_alloc (b_alloc (Below.refl _ _) _) _
  have hl := gErr_len hg
  have cc := gcheck_any (hN'.on hB) (hT'.on hB) zN zT (by unfold maxLen; omega) (by unfold maxLen; omega)
  rw [hg, errV_0] at cc
  have g0 : ((w.alloc (.cells #[.slice an N.length cn, .slice am T.length cm] 29)).alloc (.cells #[.int .i64 id] 3)).cell? ⟨w.heap.size, 0, none⟩ = some (.slice an N.length cn) := by simp
  have g2 : ((w.alloc (.cells #[.slice an N.length cn, .slice am T.length cm] 29)).alloc (.cells #[.int .i64 id] 3)).cell? ⟨w.heap.size + 1, 0, none⟩ = some (.int .i64 id) := by simp
  have ci := fun W (hW : Below ((w.alloc (.cells #[.slice an N.length cn, .slice am T.length cm] 29)).alloc (.cells #[.int .i64 id] 3)).heap.size ((w.alloc (.cells #[.slice an N.length cn, .slice am T.length cm] 29)).alloc (.cells #[.int .i64 id] 3)) W) => index_any (ao := an) (cn := cn) (N := N) (w := W) (by
    rcases hn with h | ⟨b, off, h1, h2, h3⟩
    · exact .inl h
    · exact .inr ⟨b, off, h1, Nat.lt_of_lt_of_le h2 (on1 hB hW).size, h3.on h2 (on1 hB hW)⟩) (gErr_len hg).1 (w.heap.size + 1) id (by have := hW.size; simp at this; omega) ((hW.cell (by simp)).trans g2)
  have HG : Hid (∀ W, Below ((w.alloc (.cells #[.slice an N.length cn, .slice am T.length cm] 29)).alloc (.cells #[.int .i64 id] 3)).heap.size ((w.alloc (.cells #[.slice an N.length cn, .slice am T.length cm] 29)).alloc (.cells #[.int .i64 id] 3)) W → W.cell? ⟨w.heap.size, 0, none⟩ = some (.slice an N.length cn)) := fun W hW => (hW.cell (by simp; omega)).trans g0
  obtain ⟨k, n, hk, hx⟩ := idxN_at id N 0 hh
  rw [Nat.zero_add] at hx
  rw [hx] at ci ⊢
  clear g0 g2 hg hn hm hx hh hk
  have hk0 : ¬ ((k : Int) < 0) := by omega
  go_enter Tryz.func19, Tryz.ntmps19
  go_wp2_with (first | (go_at_call 39; refine cc.mono ?_; rintro e W2 ⟨rfl, hB2⟩; have k0 := HG.out W2 hB2) | (go_at_call 40; refine (ci _ hB2).mono ?_; rintro e W3 ⟨rfl, hB3⟩))
  go_ret2
  exact ⟨rfl, on1 (on1 hB hB2) hB3⟩

/-- What Node gives: the node, its record its own, and the error. -/
def NoP (w : World) (N : List Nd) (T : List Te) (id : Int) (e : Ending) (w' : World) : Prop := ∃ i k a l c, e = .returned (.tuple #[.agg #[.int .i64 i, .string k, .slice a l c], errV (fE N T id)]) ∧ (hasId N id = true → ∃ (j : Nat) (n : Nd), N[j]? = some n ∧ idxN id N 0 = (j : Int) ∧ i = n.id ∧ k = n.kd ∧ OwnRc w' w.heap.size (.slice a l c) n.rc) ∧ Below w.heap.size w w'
set_option maxHeartbeats 2000000 in
set_option maxRecDepth 100000 in
theorem node_any {vn vt : Value} {N : List Nd} {T : List Te} {w : World} (hN : IsN w vn N) (hT : IsT w vt T) (zN : SzN N) (zT : SzT T) (hg : gErr N T = 0) (h8 : ∀ n ∈ N, n.rc.length ≤ 8) (id : Int) :
    Calls Tryz.prog 5 #[.agg #[vn, vt], .int .i64 id] w (NoP w N T id) := by
  obtain ⟨W0, hW0⟩ : ∃ W0, W0 = (w.alloc (.cells #[vn, vt] 29)).alloc (.cells #[.int .i64 0, .string ⟨#[]⟩, .slice none 0 0] 38) := ⟨_, rfl⟩
  have hB0 : Below w.heap.size w W0 := by rw [hW0]; exact b_alloc (b_alloc (Below.refl _ _) _) _
  have hs0 : W0.heap.size = w.heap.size + 2 := by rw [hW0]; simp
  have n0 : W0.heap[w.heap.size]? = some (.cells #[vn, vt] 29 (0, 0)) := by rw [hW0]; exact (heap_alloc_old _ _ (by simp)).trans (heap_alloc_new w _)
  have n1 : W0.heap[w.heap.size + 1]? = some (.cells #[.int .i64 0, .string ⟨#[]⟩, .slice none 0 0] 38 (0, 0)) := by
    have := heap_alloc_new (w.alloc (.cells #[vn, vt] 29)) (.cells #[.int .i64 0, .string ⟨#[]⟩, .slice none 0 0] 38)
    rw [World.size_alloc] at this; rw [hW0]; exact this
  have hl := gErr_len hg
  have x0 : W0.cell? ⟨w.heap.size, 0, none⟩ = some vn := cell_at n0 rfl
  have x1 : W0.cell? ⟨w.heap.size, 1, none⟩ = some vt := cell_at n0 rfl
  have hN0 := hN.on hB0
  have hT0 := hT.on hB0
  cases hh : hasId N id with
  | false =>
    have cF := find_any hN0 hT0 zN zT (by unfold maxLen; omega) (by unfold maxLen; omega) id
    rw [fE_no hg hh] at cF
    have HE : Hid (fE N T id = 5) := fE_no hg hh
    have HHh := Lib.hid hh
    have HI : Hid (Below w.heap.size w W0 ∧ ∀ W, Below W0.heap.size W0 W → W.heap[w.heap.size + 1]? = some (.cells #[.int .i64 0, .string ⟨#[]⟩, .slice none 0 0] 38 (0, 0))) := ⟨hB0, fun W hB => (hB.block _ (by omega)).trans n1⟩
    obtain ⟨an, cn, hvn, _⟩ := hN
    obtain ⟨am, cm, hvt, _⟩ := hT
    subst hvn hvt
    rw [show errV 5 = .iface 66 (.int .i64 5) from rfl] at cF
    clear n0 n1 hB0 hN0 hT0 hg hh
    go_enter Tryz.func5, Tryz.ntmps5
    go_upto_region 1 with fail
    rw [← hW0]
    clear hW0
    go_wp2_with (first | (go_at_call 19; refine cF.mono ?_; rintro e W1 ⟨x, rfl, hB1⟩; have q1 := HI.out.2 W1 hB1; have t0 : W1.cell? ⟨w.heap.size + 1, 0, none⟩ = some (.int .i64 0) := cell_at q1 rfl; have t1 : W1.cell? ⟨w.heap.size + 1, 1, none⟩ = some (.string ⟨#[]⟩) := cell_at q1 rfl; have t2 : W1.cell? ⟨w.heap.size + 1, 2, none⟩ = some (.slice none 0 0) := cell_at q1 rfl; have f0 : W1.frozen? ⟨w.heap.size + 1, 0, none⟩ = false := frz_at q1; have f1 : W1.frozen? ⟨w.heap.size + 1, 1, none⟩ = false := frz_at q1; have f2 : W1.frozen? ⟨w.heap.size + 1, 2, none⟩ = false := frz_at q1; have HQ := Lib.hid q1; clear q1))
    have u := heap_setCell_same _ _ 2 _ 38 (.slice none 0 0) (heap_setCell_same _ _ 1 _ 38 (.string ⟨#[]⟩) (heap_setCell_same W1 _ 0 _ 38 (.int .i64 0) HQ.out))
    have v0 : (((W1.setCell ⟨w.heap.size + 1, 0, none⟩ (.int .i64 0)).setCell ⟨w.heap.size + 1, 1, none⟩ (.string ⟨#[]⟩)).setCell ⟨w.heap.size + 1, 2, none⟩ (.slice none 0 0)).cell? ⟨w.heap.size + 1, 0, none⟩ = some (.int .i64 0) := cell_at u rfl
    have v1 : (((W1.setCell ⟨w.heap.size + 1, 0, none⟩ (.int .i64 0)).setCell ⟨w.heap.size + 1, 1, none⟩ (.string ⟨#[]⟩)).setCell ⟨w.heap.size + 1, 2, none⟩ (.slice none 0 0)).cell? ⟨w.heap.size + 1, 1, none⟩ = some (.string ⟨#[]⟩) := cell_at u rfl
    have v2 : (((W1.setCell ⟨w.heap.size + 1, 0, none⟩ (.int .i64 0)).setCell ⟨w.heap.size + 1, 1, none⟩ (.string ⟨#[]⟩)).setCell ⟨w.heap.size + 1, 2, none⟩ (.slice none 0 0)).cell? ⟨w.heap.size + 1, 2, none⟩ = some (.slice none 0 0) := cell_at u rfl
    refine bodyPost_ret (v := .tuple #[.agg #[.int .i64 0, .string ⟨#[]⟩, .slice none 0 0], .iface 66 (.int .i64 5)]) ?_ rfl ⟨_, _, _, _, _, by rw [HE.out]; rfl, fun h => absurd h (by rw [HHh.out]; decide), below_set3 (on1K HI.out.1 hB1 (Nat.le_refl _)) (by omega) _ _ _ _ _ _⟩
    simp [results, Tryz.results5, go_sem, v0, v1, v2]
  | true =>
    have cF := find_ok hN0 hT0 zN zT hg id hh
    obtain ⟨k, n, hk, hx⟩ := idxN_at id N 0 hh
    rw [Nat.zero_add] at hx
    rw [hx] at cF
    have hkl := (List.getElem?_eq_some_iff.1 hk).1
    have HE : Hid (fE N T id = 0) := fE_ok hg hh
    have hn8 := h8 n (List.mem_of_getElem? hk)
    obtain ⟨an, cn, hvn, hcn, hNN⟩ := hN0
    obtain ⟨am, cm, hvt, _⟩ := hT
    subst hvn hvt
    rcases hNN with h0 | ⟨b, off, hab, hb, hLL⟩
    · rw [h0] at hkl; exact absurd hkl (by simp)
    subst hab
    obtain ⟨c0, c1, c2, cR⟩ := hLL k n hk
    have HI : Hid (Below w.heap.size w W0 ∧ ∀ W, Below W0.heap.size W0 W → W.heap[w.heap.size + 1]? = some (.cells #[.int .i64 0, .string ⟨#[]⟩, .slice none 0 0] 38 (0, 0)) ∧ W.cell? ⟨w.heap.size, 0, none⟩ = some (.slice (some ⟨b, off, none⟩) N.length cn) ∧ W.cell? ⟨b, off + k * 3, none⟩ = some (.int .i64 n.id) ∧ W.cell? ⟨b, off + k * 3 + 1, none⟩ = some (.string n.kd) ∧ W.cell? ⟨b, off + k * 3 + 2, none⟩ = some n.rv ∧ IsR W n.rv n.rc ∧ w.heap.size + 2 ≤ W.heap.size) := ⟨hB0, fun W hB => ⟨(hB.block _ (by omega)).trans n1, (hB.cell (by show w.heap.size < W0.heap.size; omega)).trans x0, (hB.cell hb).trans c0, (hB.cell hb).trans c1, (hB.cell hb).trans c2, cR.on hB, by have := hB.size; omega⟩⟩
    have HK : Hid (N[k]? = some n ∧ idxN id N 0 = (k : Int)) := ⟨hk, hx⟩
    clear n0 n1 hB0 hT0 hg hh hN c0 c1 c2 hLL hk hx hcn
    go_enter Tryz.func5, Tryz.ntmps5
    go_upto_region 1 with fail
    rw [← hW0]
    clear hW0
    obtain ⟨av, lv, cv, hv⟩ := cR.sl
    obtain ⟨ni, kd, rv, rc⟩ := n
    simp only at hv HI hn8
    subst hv
    clear cR
    go_wp2_with (first | (go_at_call 19; refine cF.mono ?_; rintro e W1 ⟨rfl, hB1⟩; refine Hid.out ?_))
    refine Lib.hid ?_
    obtain ⟨q1, q2, q3, q4, q5, q6, q7⟩ := HI.out.2 W1 hB1
    have cc := copiedNode_any ⟨ni, kd, .slice av lv cv, rc⟩ W1 q6 (by show rc.length ≤ 1000; omega)
    have HP : Hid (W1.heap[w.heap.size + 1]? = some (.cells #[.int .i64 0, .string ⟨#[]⟩, .slice none 0 0] 38 (0, 0)) ∧ Below w.heap.size w W1 ∧ w.heap.size + 2 ≤ W1.heap.size) := ⟨q1, on1K HI.out.1 hB1 (Nat.le_refl _), q7⟩
    have hki : (k : Int) < (N.length : Int) := by omega
    clear q1 q6 q7 hB1 HI cF x0 x1
    go_wp2_with (first | (go_at_call 20; refine cc.mono ?_; rintro e W2 ⟨v2, rfl, hR2, hB2⟩; obtain ⟨a3, l3, c3, rfl⟩ := OwnRc.sl hR2; have k1 := (hB2.block (w.heap.size + 1) (by have := HP.out.2.2; omega)).trans HP.out.1; have t0 : W2.cell? ⟨w.heap.size + 1, 0, none⟩ = some (.int .i64 0) := cell_at k1 rfl; have t1 : W2.cell? ⟨w.heap.size + 1, 1, none⟩ = some (.string ⟨#[]⟩) := cell_at k1 rfl; have t2 : W2.cell? ⟨w.heap.size + 1, 2, none⟩ = some (.slice none 0 0) := cell_at k1 rfl; have f0 : W2.frozen? ⟨w.heap.size + 1, 0, none⟩ = false := frz_at k1; have f1 : W2.frozen? ⟨w.heap.size + 1, 1, none⟩ = false := frz_at k1; have f2 : W2.frozen? ⟨w.heap.size + 1, 2, none⟩ = false := frz_at k1; have HF : Hid (Below w.heap.size w W2 ∧ W2.heap[w.heap.size + 1]? = some (.cells #[.int .i64 0, .string ⟨#[]⟩, .slice none 0 0] 38 (0, 0)) ∧ OwnRc W2 w.heap.size (.slice a3 l3 c3) rc) := ⟨on1K HP.out.2.1 hB2 (Nat.le_refl _), k1, own_base hR2 (by have := HP.out.2.2; omega)⟩; clear k1 hR2 hB2))
    obtain ⟨z1, z2, z3⟩ := HF.out
    have u := heap_setCell_same _ _ 2 _ 38 (.slice a3 l3 c3) (heap_setCell_same _ _ 1 _ 38 (.string kd) (heap_setCell_same W2 _ 0 _ 38 (.int .i64 ni) z2))
    have v0 : (((W2.setCell ⟨w.heap.size + 1, 0, none⟩ (.int .i64 ni)).setCell ⟨w.heap.size + 1, 1, none⟩ (.string kd)).setCell ⟨w.heap.size + 1, 2, none⟩ (.slice a3 l3 c3)).cell? ⟨w.heap.size + 1, 0, none⟩ = some (.int .i64 ni) := cell_at u rfl
    have v1 : (((W2.setCell ⟨w.heap.size + 1, 0, none⟩ (.int .i64 ni)).setCell ⟨w.heap.size + 1, 1, none⟩ (.string kd)).setCell ⟨w.heap.size + 1, 2, none⟩ (.slice a3 l3 c3)).cell? ⟨w.heap.size + 1, 1, none⟩ = some (.string kd) := cell_at u rfl
    have v2 : (((W2.setCell ⟨w.heap.size + 1, 0, none⟩ (.int .i64 ni)).setCell ⟨w.heap.size + 1, 1, none⟩ (.string kd)).setCell ⟨w.heap.size + 1, 2, none⟩ (.slice a3 l3 c3)).cell? ⟨w.heap.size + 1, 2, none⟩ = some (.slice a3 l3 c3) := cell_at u rfl
    have ty : Ty W2 (w.heap.size + 1) 38 := ⟨_, z2⟩
    refine bodyPost_ret (v := .tuple #[.agg #[.int .i64 ni, .string kd, .slice a3 l3 c3], .nilIface]) ?_ rfl ⟨_, _, _, _, _, by rw [HE.out]; rfl, fun _ => ⟨k, ⟨ni, kd, .slice av lv cv, rc⟩, HK.out.1, HK.out.2, rfl, rfl, OwnRc.kt z3 ((Kt.refl _ _).ty3 ty (by decide) _ _ _ _ _ _)⟩, below_set3 z1 (by omega) _ _ _ _ _ _⟩
    simp [results, Tryz.results5, go_sem, v0, v1, v2]
end Go.Proofs.YtifcpjimhhpcpaaGreatDoor
