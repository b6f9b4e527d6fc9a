import Derived.Test.YtahamkajkkkjdaaGreatDoorM37
import Derived.Test.YtahamkajkkkjdaaGreatDoorM03
import Derived.Test.YtahamkajkkkjdaaGreatDoorM38
namespace Go.Proofs.YtahamkajkkkjdaaGreatDoor
open Go.RowKit
set_option linter.unusedVariables false
set_option linter.unusedSimpArgs false
def stR : List (List Opx) → List Nd × List Te → List Nd × List Te
  | [], s => s
  | O :: r, s => stR r (opS.res O s.1 s.2)
def rcs (Os : List (List Opx)) : List UInt8 := Os.flatMap fun O => recL (encE0 O)
theorem stR_snoc : ∀ (A : List (List Opx)) (O : List Opx) (s : List Nd × List Te), stR (A ++ [O]) s = opS.res O (stR A s).1 (stR A s).2
  | [], O, s => rfl
  | P :: r, O, s => stR_snoc r O _
theorem rcs_snoc (A : List (List Opx)) (O : List Opx) : rcs (A ++ [O]) = rcs A ++ recL (encE0 O) := by unfold rcs; simp
structure RecOk (L : List Kd) (B : List Bd) (O : List Opx) (N : List Nd) (T : List Te) : Prop where
  i : ∀ o ∈ O, OpI o
  x : ∀ X, RdOf X O → (∀ o ∈ X, OpSz o) ∧ X.length ≤ 40 ∧ opS.err X N T = 0 ∧ opS.res X N T = opS.res O N T
  c : confB L B (opS.res O N T).1 (opS.res O N T).2 = true
theorem isO_own {w : World} {base : Nat} {v : Value} {O : List Opx} (h1 : w.ownsRow base 48 11 v O.length (O.flatMap Opx.cells)) (h2 : OsRc w base O) : IsO w v O := by
  have hc : ∀ g, v.ownBlock = some g → ∀ j u, (O.flatMap Opx.cells)[j]? = some u → w.cell? ((⟨g, 0, none⟩ : Addr).add j) = some u := fun g hg => h1.cells hg
  rcases h1.2 with ⟨rfl, h0⟩ | ⟨g, cap, cur, rfl, hb, hg, hn, _⟩
  · have : O = [] := List.eq_nil_of_length_eq_zero h0
    subst this
    exact ⟨none, 0, rfl, Nat.le_refl _, .inl rfl⟩
  · refine ⟨_, cap, rfl, hn, .inr ⟨g, 0, rfl, (Array.getElem?_eq_some_iff.1 hg).1, fun k o ho => ⟨fun i u hu => ?_, (h2 o (List.mem_of_getElem? ho)).isR⟩⟩⟩
    have hi : i < 11 := by
      have := (List.getElem?_eq_some_iff.1 hu).1
      rwa [op_len] at this
    have := hc g rfl (k * 11 + i) u (by rw [flatK op_len O k o i ho hi]; exact hu)
    rw [Addr.add_lit, Nat.zero_add] at this
    rw [Nat.zero_add]
    exact this
theorem enP0_kt {B0 : Nat} {O : List Opx} {cs : List Value} {W W' : World} (h : EnP0 B0 O cs W) (hk : ∀ t, Kt t W W') : EnP0 B0 O cs W' := by
  obtain ⟨v, X, h1, h2, h3, h4, h5, h6, h7⟩ := h
  exact ⟨v, X, h1, h2, h3, h4, h5, own_kt h6 (hk _), fun x hx => (h7 x hx).kt (hk _)⟩
theorem re_with {W : World} {base B0 : Nat} {vk vb vn vt : Value} {L : List Kd} {B : List Bd} {N : List Nd} {T : List Te} {O : List Opx} {cs : List Value} {ca : Array Value} (hsc : ScAt W base vk vb L B) (kz : SzK L) (bz : SzB B) (hse : (sErr L B).2 = 0) (hg : GrAt W base vn vt N T) (hb : base ≤ W.heap.size) (hr : RecOk L B O N T) (hO : EnP0 B0 O cs W) (hca : ca = cs.toArray) :
    Calls Tryz.prog 20 #[.agg #[vk, vb, vn, vt], .agg ca] W fun e w' => ∃ p1 l1 c1 p2 l2 c2, e = .returned (.tuple #[.agg #[vk, vb, .slice p1 l1 c1, .slice p2 l2 c2], .nilIface]) ∧ GrAt w' base (.slice p1 l1 c1) (.slice p2 l2 c2) (opS.res O N T).1 (opS.res O N T).2 ∧ Below W.heap.size W w' := by
  obtain ⟨v, X, hX, h0, h1, h20, hone, hown, hrc⟩ := hO
  obtain ⟨K, e1, hK, hB⟩ := id hsc
  obtain ⟨M, e2, hM, hT, hgr⟩ := id hg
  obtain ⟨q1, q2, q3, q4⟩ := hr.x X hX
  have hc0 : putE K B X (cN M) T = 0 := by
    unfold putE
    rw [e2, if_pos q3, confB_kq e1, q4, if_pos hr.c]
  subst hca
  refine (with_any0 (cs := cs.toArray) ⟨by simpa using h0, by simpa using h1, by simpa using h20⟩ (sc_isSc e1 hK hB kz bz) (isG_own hM hT hgr) (isO_own hown hrc) q1 q2 hgr (by rw [sErr_kq e1]; exact hse)).mono ?_
  rintro e w' ⟨hBw, hp, _⟩
  obtain ⟨un, ut, M', rfl, r1, r2, r3, r4⟩ := hp hc0
  rw [e2, q4] at r1 r3 r4
  obtain ⟨p1, c1, rfl⟩ := own_slice r2.1
  obtain ⟨p2, c2, rfl⟩ := own_slice r3
  exact ⟨p1, _, c1, p2, _, c2, rfl, ⟨M', r1, ownNs_b r2 hb, own_base r3 hb, r4⟩, hBw⟩
set_option maxHeartbeats 8000000 in
set_option maxRecDepth 100000 in
theorem replayed_any {w : World} {base : Nat} {vk vb v : Value} {L : List Kd} {B : List Bd} {Os : List (List Opx)} {tl : List UInt8} (hsc : ScAt w base vk vb L B) (kz : SzK L) (bz : SzB B) (hse : (sErr L B).2 = 0) (hv : By w v (rcs Os ++ tl)) (htl : whole tl = none) (hl : (rcs Os ++ tl).length ≤ 1000000000) (hE : Env w) (hbs : base ≤ w.heap.size)
    (hk : ∀ A O R, Os = A ++ O :: R → RecOk L B O (stR A ([], [])).1 (stR A ([], [])).2) :
    Calls Tryz.prog 17 #[.agg #[vk, vb], v] w fun e w' => ∃ vn vt, e = .returned (.tuple #[.agg #[vk, vb, vn, vt], .int .i64 ((rcs Os).length : Int)]) ∧ GrAt w' base vn vt (stR Os ([], [])).1 (stR Os ([], [])).2 ∧ Below w.heap.size w w' := by
  obtain ⟨⟨ak, lk, ck, rfl⟩, ab, lb, cb, rfl⟩ := hsc.sl
  obtain ⟨p, c, rfl⟩ : ∃ p c, v = .slice p (rcs Os ++ tl).length c := by obtain ⟨p, c, e, _⟩ := hv; exact ⟨p, c, e⟩
  have hcap := hv.cap
  have hlen := hv.len
  obtain ⟨w1, hw1⟩ : ∃ w1, w1 = (w.alloc (.cells #[.slice ak lk ck, .slice ab lb cb] 34)).alloc (.cells #[.slice ak lk ck, .slice ab lb cb, .slice none 0 0, .slice none 0 0] 69) := ⟨_, rfl⟩
  have hB1 : Below w.heap.size w w1 := by rw [hw1]; exact bA (bA (Below.refl _ _) (Nat.le_refl _) _) (Nat.le_refl _) _
  have hz1 : w1.heap.size = w.heap.size + 2 := by rw [hw1]; simp
  have k1 : w1.heap[w.heap.size + 1]? = some (.cells #[.slice ak lk ck, .slice ab lb cb, .slice none 0 0, .slice none 0 0] 69 (0, 0)) := by
    rw [hw1]
    have := heap_alloc_new (w.alloc (.cells #[.slice ak lk ck, .slice ab lb cb] 34)) (.cells #[.slice ak lk ck, .slice ab lb cb, .slice none 0 0, .slice none 0 0] 69)
    rwa [World.size_alloc] at this
  have HW1 := Lib.hid (And.intro hB1 (And.intro hz1 k1))
  have HV := Lib.hid (And.intro hv (And.intro hl (And.intro hE (And.intro hsc (And.intro kz (And.intro bz (And.intro hse (And.intro hbs htl))))))))
  have HK := Lib.hid hk
  have HC := Lib.hid hcap
  generalize hlr : (rcs Os ++ tl).length = n at *
  clear hv hl hE hsc kz bz hse hbs hk hB1 hz1 k1 hcap
  go_enter Tryz.func17, Tryz.ntmps17
  go_upto_region 2 with fail
  rw [← hw1]
  clear hw1
  go_loopw [5] (fun a wr => ∃ A R pn ln cn pt lt ct, Os = A ++ R ∧ a = .int .i64 ((rcs A).length : Int) ∧ wr.heap[w.heap.size + 1]? = some (.cells #[.slice ak lk ck, .slice ab lb cb, .slice pn ln cn, .slice pt lt ct] 69 (0, 0)) ∧ GrAt wr base (.slice pn ln cn) (.slice pt lt ct) (stR A ([], [])).1 (stR A ([], [])).2 ∧ Below w.heap.size w wr) (fun a wr => n - (intOf a).toNat)
  case atStart => exact ⟨[], Os, _, _, _, _, _, _, rfl, rfl, HW1.out.2.2, gr_nil _ _, HW1.out.1⟩
  case round =>
    obtain ⟨A, R, pn, ln, cn, pt, lt, ct, hOs, rfl, hb, hg, hB⟩ := hrel
    obtain ⟨hv, hl, hE, hsc, kz, bz, hse, hbs, htl⟩ := HV.out
    have hrc : rcs Os = rcs A ++ rcs R := by rw [hOs]; unfold rcs; simp
    have hle : (rcs A).length ≤ n := by rw [← hlr, hrc]; simp only [List.length_append]; omega
    have hsl := fun W => slLo p n c (rcs A).length hle hlen.2 HC.out W
    have hd := (hv.kt (.of_below hB)).drop (k := (rcs A).length) (by rw [hlr]; exact hle)
    have hdr : (rcs Os ++ tl).drop (rcs A).length = rcs R ++ tl := by rw [hrc, List.append_assoc, List.drop_left]
    rw [hdr] at hd
    have hlR : (rcs R ++ tl).length ≤ 1000000000 := by
      have : (rcs Os ++ tl).length = (rcs A).length + (rcs R ++ tl).length := by rw [hrc]; simp only [List.length_append]; omega
      omega
    cases R with
    | nil =>
      have cR := read_no (hE.on (hB.mono hE.sz)) hd (by omega) (by show whole (rcs [] ++ tl) = none; exact htl)
      obtain ⟨zc, hzc⟩ : ∃ zc, zc = zE.toArray := ⟨_, rfl⟩
      have hzs : Hid (zc.size = 20) := Lib.hid (by rw [hzc]; rfl)
      have hz1 : Hid (zc.all (·.oneCell') = true) := Lib.hid (by rw [hzc]; exact zE_one)
      unfold zEv at cR
      rw [← hzc] at cR
      have HF := Lib.hid (And.intro hb (And.intro hg (And.intro hB hOs)))
      clear hb hg hB hOs hv hl hE hsc kz bz hse hbs htl hrc hdr hd hlR hzc
      go_wp2_with (first
        | (go_at_call 23; refine cR.mono ?_; rintro e W1 ⟨rfl, hb1⟩; obtain ⟨hb, hg, hB, hOs⟩ := HF.out; have hba := hb1.trans (bA (Below.refl wr.heap.size W1) hb1.size (.cells zc 75)); have hh := (hba.block _ (Array.getElem?_eq_some_iff.1 hb).1).trans hb; have x0 : (W1.alloc (.cells zc 75)).cell? ⟨w.heap.size + 1, 0, none⟩ = some (.slice ak lk ck) := cell_at hh rfl; have f0 : (W1.alloc (.cells zc 75)).frozen? ⟨w.heap.size + 1, 0, none⟩ = false := frz_at hh; have x1 : (W1.alloc (.cells zc 75)).cell? ⟨w.heap.size + 1, 1, none⟩ = some (.slice ab lb cb) := cell_at hh rfl; have f1 : (W1.alloc (.cells zc 75)).frozen? ⟨w.heap.size + 1, 1, none⟩ = false := frz_at hh; have x2 : (W1.alloc (.cells zc 75)).cell? ⟨w.heap.size + 1, 2, none⟩ = some (.slice pn ln cn) := cell_at hh rfl; have f2 : (W1.alloc (.cells zc 75)).frozen? ⟨w.heap.size + 1, 2, none⟩ = false := frz_at hh; have x3 : (W1.alloc (.cells zc 75)).cell? ⟨w.heap.size + 1, 3, none⟩ = some (.slice pt lt ct) := cell_at hh rfl; have f3 : (W1.alloc (.cells zc 75)).frozen? ⟨w.heap.size + 1, 3, none⟩ = false := frz_at hh; have HH := Lib.hid (And.intro hh (And.intro (hg.kt (fun t _ _ _ => .of_below hba)) (hB.trans (hba.mono hB.size)))); clear hb hg hB hba hb1 hh hOs)
        | (refine wpList_store_new rfl 75 (.tmp 6) (.tmp 16) rfl _ zc rfl rfl (by rw [hzs.out]; exact info75) (by rw [hzs.out]; rfl) hz1.out ?_)
        | fail)
      obtain ⟨hh, hg, hB⟩ := HH.out
      obtain ⟨_, _, _, hOs⟩ := HF.out
      rw [List.append_nil] at hOs
      refine bodyPost_ret (v := .tuple #[.agg #[.slice ak lk ck, .slice ab lb cb, .slice pn ln cn, .slice pt lt ct], .int .i64 ((rcs A).length : Int)]) (results_cell2 (p := 4) (u := 5) (ty := 69) rfl _ _ (w.heap.size + 1) 69 _ (0, 0) _ rfl (lset4_heap hh) Tryz.underlying69 rfl info69) rfl ?_
      rw [hOs]
      exact ⟨_, _, rfl, hg.kt (fun t ht _ _ => lset4_kt hh (Ne.symm ht)), (lset4_bx (l := []) (Bx.of_below hB (Nat.le_refl _)) (.inr (Nat.le_succ _)) _ _ _ _).below (Nat.le_refl _) (fun _ h => by cases h)⟩
    | cons O R =>
      have hRO := HK.out A O R hOs
      have hrO : rcs (O :: R) ++ tl = recL (encE0 O) ++ (rcs R ++ tl) := by unfold rcs; simp
      rw [hrO] at hd hlR
      have hEr := hE.on (hB.mono hE.sz)
      have cR := read_yes (F := EnP0 wr.heap.size O) hEr hd (by omega) (fun cs W h => by obtain ⟨_, _, _, _, _, h20, h1, _⟩ := h; exact ⟨h20, h1⟩) (fun b t W hT hR => by
        have := r_ent0 (r := []) hEr.sz hT hRO.i (by rw [List.append_nil]; simp only [List.length_append] at hlR; unfold recL encT at hlR; simp only [List.length_append] at hlR; omega) W (by rw [List.append_nil]; exact hR)
        exact this)
      have cY : Calls Tryz.prog 23 #[Lib.fromV p n c (rcs A).length] wr fun e w' => ∃ ca : Array Value, e = .returned (.tuple #[.agg ca, .int .i64 ((recL (encE0 O)).length : Int), .bool true]) ∧ (ca.size = 20 ∧ ca.all (·.oneCell') = true ∧ ∃ cs, ca = cs.toArray ∧ EnP0 wr.heap.size O cs w') ∧ Below wr.heap.size wr w' := by
        refine cR.mono ?_
        rintro e w' ⟨cs, rfl, hF, hBw⟩
        have hF' := hF
        obtain ⟨_, _, _, _, _, h20, h1, _⟩ := hF'
        exact ⟨cs.toArray, rfl, ⟨by simpa using h20, by simpa using h1, cs, rfl, hF⟩, hBw⟩
      have HF := Lib.hid (And.intro hb (And.intro hg (And.intro hB (And.intro hOs (And.intro hRO hlR)))))
      obtain ⟨m, hm⟩ : ∃ m, m = (recL (encE0 O)).length := ⟨_, rfl⟩
      rw [← hm] at cY
      have HM := Lib.hid hm
      have hm2 : 2 ≤ m := by rw [hm]; exact recL_two O
      have hmn : (rcs A).length + m ≤ n := by rw [← hlr, hrc]; unfold rcs; simp only [List.flatMap_cons, List.length_append]; omega
      have hwr : IntKind.i64.wrap (((rcs A).length : Int) + (m : Int)) = ((rcs A).length : Int) + (m : Int) := by
        have : n ≤ 1000000000 := hl
        rw [IntKind.wrap_i64]; omega
      clear hb hg hB hOs hv hl hE hsc kz bz hse hbs htl hrc hdr hd hlR cR hRO hrO hEr hm
      go_wp2_with (first
        | (go_at_call 23; refine cY.mono ?_; rintro e W1 ⟨ca, rfl, ⟨hs20, h1, hcs⟩, hb1⟩; obtain ⟨hb, hg, hB, hOs, hRO, hlR⟩ := HF.out; have hba1 := bA (Below.refl W1.heap.size W1) (Nat.le_refl _) (.cells ca 75); have hba := hb1.trans (bA (Below.refl wr.heap.size W1) hb1.size (.cells ca 75)); have hh := (hba.block _ (Array.getElem?_eq_some_iff.1 hb).1).trans hb; have hne := heap_alloc_new W1 (.cells ca 75); have hga := hg.kt (fun t _ _ _ => .of_below hba); have hBa := hB.trans (hba.mono hB.size); have hsA := HV.out.2.2.2.1.kt (fun t _ _ _ => .of_below hBa); obtain ⟨cs, hca, hF⟩ := hcs; have cW := re_with hsA HV.out.2.2.2.2.1 HV.out.2.2.2.2.2.1 HV.out.2.2.2.2.2.2.1 hga (by have := hBa.size; have := HV.out.2.2.2.2.2.2.2.1; omega) hRO (enP0_kt hF (fun t => .of_below hba1)) hca; have x0 : (W1.alloc (.cells ca 75)).cell? ⟨w.heap.size + 1, 0, none⟩ = some (.slice ak lk ck) := cell_at hh rfl; have f0 : (W1.alloc (.cells ca 75)).frozen? ⟨w.heap.size + 1, 0, none⟩ = false := frz_at hh; have x1 : (W1.alloc (.cells ca 75)).cell? ⟨w.heap.size + 1, 1, none⟩ = some (.slice ab lb cb) := cell_at hh rfl; have f1 : (W1.alloc (.cells ca 75)).frozen? ⟨w.heap.size + 1, 1, none⟩ = false := frz_at hh; have x2 : (W1.alloc (.cells ca 75)).cell? ⟨w.heap.size + 1, 2, none⟩ = some (.slice pn ln cn) := cell_at hh rfl; have f2 : (W1.alloc (.cells ca 75)).frozen? ⟨w.heap.size + 1, 2, none⟩ = false := frz_at hh; have x3 : (W1.alloc (.cells ca 75)).cell? ⟨w.heap.size + 1, 3, none⟩ = some (.slice pt lt ct) := cell_at hh rfl; have f3 : (W1.alloc (.cells ca 75)).frozen? ⟨w.heap.size + 1, 3, none⟩ = false := frz_at hh; have HS := Lib.hid (And.intro hs20 h1); have HH := Lib.hid (And.intro hh hBa); clear hb hg hB hba hb1 hh hOs hRO hlR hs20 h1 hF hca hga hBa hsA hba1)
        | (refine wpList_store_new rfl 75 (.tmp 6) (.tmp 16) rfl _ ca rfl rfl (by rw [HS.out.1]; exact info75) (by rw [HS.out.1]; rfl) HS.out.2 ?_)
        | (refine wpList_load_row rfl 75 (.tmp 6) rfl W1.heap.size rfl 75 ca (0, 0) _ hne Tryz.underlying75 rfl (by rw [HS.out.1]; exact info75) ?_)
        | (go_at_call 20; refine cW.mono ?_; rintro e W3 ⟨p1, l1, c1, p2, l2, c2, rfl, hg3, hb3⟩; have hh3 := (hb3.block _ (Array.getElem?_eq_some_iff.1 HH.out.1).1).trans HH.out.1; have x0' : W3.cell? ⟨w.heap.size + 1, 0, none⟩ = some (.slice ak lk ck) := cell_at hh3 rfl; have f0' : W3.frozen? ⟨w.heap.size + 1, 0, none⟩ = false := frz_at hh3; have x1' : W3.cell? ⟨w.heap.size + 1, 1, none⟩ = some (.slice ab lb cb) := cell_at hh3 rfl; have f1' : W3.frozen? ⟨w.heap.size + 1, 1, none⟩ = false := frz_at hh3; have x2' : W3.cell? ⟨w.heap.size + 1, 2, none⟩ = some (.slice pn ln cn) := cell_at hh3 rfl; have f2' : W3.frozen? ⟨w.heap.size + 1, 2, none⟩ = false := frz_at hh3; have x3' : W3.cell? ⟨w.heap.size + 1, 3, none⟩ = some (.slice pt lt ct) := cell_at hh3 rfl; have f3' : W3.frozen? ⟨w.heap.size + 1, 3, none⟩ = false := frz_at hh3; have H3 := Lib.hid (And.intro hh3 (And.intro hg3 (HH.out.2.trans (hb3.mono HH.out.2.size)))); clear hg3 hb3 hh3)
        | fail)
      go_roundw
      case rel =>
        obtain ⟨hh3, hg3, hB3⟩ := H3.out
        obtain ⟨_, _, _, hOs, _⟩ := HF.out
        refine ⟨A ++ [O], R, p1, l1, c1, p2, l2, c2, by rw [hOs]; simp, by rw [rcs_snoc, List.length_append, ← HM.out]; push_cast; rfl, lset4_heap hh3, ?_, (lset4_bx (l := []) (Bx.of_below hB3 (Nat.le_refl _)) (.inr (Nat.le_succ _)) _ _ _ _).below (Nat.le_refl _) (fun _ h => by cases h)⟩
        rw [stR_snoc]
        exact hg3.kt (fun t ht _ _ => lset4_kt hh3 (Ne.symm ht))
      case measure => simp [intOf]; omega
theorem own_take {w : World} {base n k c : Nat} {a : Option Addr} {r : List UInt8} (h : w.ownsRow base 5 1 (.slice a n c) r.length (Lib.byteCells r)) (hn : n = r.length) (hk : k ≤ r.length) : w.ownsRow base 5 1 (.slice a k c) (r.take k).length (Lib.byteCells (r.take k)) := by
  have hl : (r.take k).length = k := by rw [List.length_take]; omega
  refine ⟨by rw [bc_len]; omega, ?_⟩
  rcases h.2 with ⟨e, h0⟩ | ⟨g, cap, cur, e, hb, hg, hn', hm, hs, ht⟩
  · injection e with e1 e2 e3
    subst e1 e3
    have : k = 0 := by omega
    subst this
    exact .inl ⟨rfl, by simp⟩
  · injection e with e1 e2 e3
    subst e1 e3
    refine .inr ⟨g, c, cur, by rw [hl], hb, hg, by omega, hm, hs, ?_⟩
    rw [hl]
    have e2 : Lib.byteCells (r.take k) = (Lib.byteCells r).take k := by unfold Lib.byteCells; rw [List.map_take]
    rw [e2, ← ht, List.take_take]
    congr 1
    omega
def crK (s : Lg) (k : Int) : Nat := (s.sf + min (max k 0) (s.bs.length - s.sf)).toNat
def crS (s : Lg) (Os : List (List Opx)) : Lg := ⟨s.L0, s.B0, s.L0, s.B0, (stR Os ([], [])).1, (stR Os ([], [])).2, rcs Os, (rcs Os).length, -1, false⟩
theorem By.of_own {w : World} {base : Nat} {v : Value} {r : List UInt8} (h : w.ownsRow base 5 1 v r.length (Lib.byteCells r)) : By w v r := by
  rcases h.2 with ⟨rfl, h0⟩ | ⟨g, cap, cur, rfl, hb, hg, hn, hm, hs, ht⟩
  · exact ⟨none, 0, by rw [h0], by omega, fun _ => rfl, .inl (List.eq_nil_of_length_eq_zero h0)⟩
  · refine ⟨_, cap, rfl, hn, fun h => (by cases h), .inr ⟨g, 0, cur, rfl, hg, fun j hj => ?_⟩⟩
    have e : (cur.toList.take (r.length * 1))[j]? = some (.int .u8 (r[j].toNat : Int)) := by rw [ht]; simp [Lib.byteCells, hj]
    rw [List.getElem?_take_of_lt (by omega)] at e
    simpa using e
set_option maxHeartbeats 4000000 in
theorem cr_fin {w W4 : World} {base p m n rl l0 c0 m0 d0 l1 c1 l2 c2 cy : Nat} {s : Lg} {k : Int} {Os : List (List Opx)} {tl : List UInt8} {vk vb vn vt : Value} {a0 b0 p1 p2 ay : Option Addr} (hn : s.bs.length = n) (hrl : (rcs Os).length = rl)
    (h : w.heap[p]? = some (.cells (lgC (.slice a0 l0 c0) (.slice b0 m0 d0) vk vb vn vt (.slice ay n cy) s.sf s.lf s.st) 72 (0, 0)) ∧ base ≤ p ∧ ScAt w base (.slice a0 l0 c0) (.slice b0 m0 d0) s.L0 s.B0 ∧ w.ownsRow base 5 1 (.slice ay n cy) n (Lib.byteCells s.bs) ∧ s.bs.take (crK s k) = rcs Os ++ tl ∧ m = crK s k)
    (h4 : W4.heap[p]? = some (.cells (lgC (.slice a0 l0 c0) (.slice b0 m0 d0) vk vb vn vt (.slice ay n cy) s.sf s.lf s.st) 72 (0, 0)) ∧ GrAt W4 base (.slice p1 l1 c1) (.slice p2 l2 c2) (stR Os ([], [])).1 (stR Os ([], [])).2 ∧ Below w.heap.size w W4) :
    LgAt ((((((((W4.setCell ⟨p, 2, none⟩ (.slice a0 l0 c0)).setCell ⟨p, 3, none⟩ (.slice b0 m0 d0)).setCell ⟨p, 4, none⟩ (.slice p1 l1 c1)).setCell ⟨p, 5, none⟩ (.slice p2 l2 c2)).setCell ⟨p, 7, none⟩ (.int .i64 (rl : Int))).setCell ⟨p, 6, none⟩ (.slice ay rl cy)).setCell ⟨p, 8, none⟩ (.int .i64 (-1))).setCell ⟨p, 9, none⟩ (.bool false)) base p (crS s Os) ∧ FrL base w ((((((((W4.setCell ⟨p, 2, none⟩ (.slice a0 l0 c0)).setCell ⟨p, 3, none⟩ (.slice b0 m0 d0)).setCell ⟨p, 4, none⟩ (.slice p1 l1 c1)).setCell ⟨p, 5, none⟩ (.slice p2 l2 c2)).setCell ⟨p, 7, none⟩ (.int .i64 (rl : Int))).setCell ⟨p, 6, none⟩ (.slice ay rl cy)).setCell ⟨p, 8, none⟩ (.int .i64 (-1))).setCell ⟨p, 9, none⟩ (.bool false)) := by
  obtain ⟨hp, hbp, hs, hy, hbs, hm⟩ := h
  obtain ⟨hp4, hg4, hB4⟩ := h4
  have r2 := heap_setCell_same W4 p 2 _ 72 (.slice a0 l0 c0) hp4
  have r3 := heap_setCell_same _ p 3 _ 72 (.slice b0 m0 d0) r2
  have r4 := heap_setCell_same _ p 4 _ 72 (.slice p1 l1 c1) r3
  have r5 := heap_setCell_same _ p 5 _ 72 (.slice p2 l2 c2) r4
  have r7 := heap_setCell_same _ p 7 _ 72 (.int .i64 (rl : Int)) r5
  have r6 := heap_setCell_same _ p 6 _ 72 (.slice ay rl cy) r7
  have r8 := heap_setCell_same _ p 8 _ 72 (.int .i64 (-1)) r6
  have r9 := heap_setCell_same _ p 9 _ 72 (.bool false) r8
  have hF4 : FrL base w W4 := ⟨hB4.mono (by have := (Array.getElem?_eq_some_iff.1 hp).1; omega), fun t _ _ => .of_below hB4⟩
  have hF := (((((((hF4.set hbp hp4 2 (.slice a0 l0 c0)).set hbp r2 3 (.slice b0 m0 d0)).set hbp r3 4 (.slice p1 l1 c1)).set hbp r4 5 (.slice p2 l2 c2)).set hbp r5 7 (.int .i64 (rl : Int))).set hbp r7 6 (.slice ay rl cy)).set hbp r6 8 (.int .i64 (-1))).set hbp r8 9 (.bool false)
  have kk : ∀ t, t ≠ 72 → Kt t W4 ((((((((W4.setCell ⟨p, 2, none⟩ (.slice a0 l0 c0)).setCell ⟨p, 3, none⟩ (.slice b0 m0 d0)).setCell ⟨p, 4, none⟩ (.slice p1 l1 c1)).setCell ⟨p, 5, none⟩ (.slice p2 l2 c2)).setCell ⟨p, 7, none⟩ (.int .i64 (rl : Int))).setCell ⟨p, 6, none⟩ (.slice ay rl cy)).setCell ⟨p, 8, none⟩ (.int .i64 (-1))).setCell ⟨p, 9, none⟩ (.bool false)) := fun t ht => (((((((((Kt.refl _ _).ty ⟨_, hp4⟩ (Ne.symm ht) _ _).ty ⟨_, r2⟩ (Ne.symm ht) _ _).ty ⟨_, r3⟩ (Ne.symm ht) _ _).ty ⟨_, r4⟩ (Ne.symm ht) _ _).ty ⟨_, r5⟩ (Ne.symm ht) _ _).ty ⟨_, r7⟩ (Ne.symm ht) _ _).ty ⟨_, r6⟩ (Ne.symm ht) _ _).ty ⟨_, r8⟩ (Ne.symm ht) _ _)
  have hsF := hs.kt (fun t _ h1 _ => (Kt.of_below hB4).trans (kk t h1))
  have hpre : rcs Os = s.bs.take rl := by
    have e : (s.bs.take (crK s k)).take rl = rcs Os := by rw [hbs, ← hrl, List.take_left]
    have hle : rl ≤ crK s k := by
      have := congrArg List.length hbs
      rw [List.length_take, List.length_append] at this
      omega
    rw [List.take_take, Nat.min_eq_left hle] at e
    exact e.symm
  have hrn : rl ≤ s.bs.length := by
    have := congrArg List.length hpre
    rw [List.length_take] at this
    omega
  rw [← hn] at hy
  have hyt := own_take hy rfl (k := rl) hrn
  rw [← hpre] at hyt
  refine ⟨⟨_, _, _, _, _, _, .slice ay rl cy, ?_, hbp, hsF, hsF, hg4.kt (fun t _ h1 _ => kk t h1), own_kt hyt ((Kt.of_below hB4).trans (kk 5 (by decide)))⟩, hF⟩
  have e9 : ((((((((lgC (.slice a0 l0 c0) (.slice b0 m0 d0) vk vb vn vt (.slice ay n cy) s.sf s.lf s.st).setIfInBounds 2 (.slice a0 l0 c0)).setIfInBounds 3 (.slice b0 m0 d0)).setIfInBounds 4 (.slice p1 l1 c1)).setIfInBounds 5 (.slice p2 l2 c2)).setIfInBounds 7 (.int .i64 (rl : Int))).setIfInBounds 6 (.slice ay rl cy)).setIfInBounds 8 (.int .i64 (-1))).setIfInBounds 9 (.bool false) = lgC (.slice a0 l0 c0) (.slice b0 m0 d0) (.slice a0 l0 c0) (.slice b0 m0 d0) (.slice p1 l1 c1) (.slice p2 l2 c2) (.slice ay rl cy) (rl : Int) (-1) false := by kernel_rfl
  rw [e9] at r9
  have e10 : (crS s Os).sf = (rl : Int) := by show ((rcs Os).length : Int) = (rl : Int); rw [hrl]
  rw [r9, e10]
  rfl
set_option maxHeartbeats 8000000 in
set_option maxRecDepth 100000 in
theorem crash_at {w : World} {base p : Nat} {s : Lg} {k : Int} {Os : List (List Opx)} {tl : List UInt8} (h : LgAt w base p s) (hok : LgOk s) (hE : Env w) (h0 : 0 ≤ s.sf) (h1 : s.sf ≤ s.bs.length) (hz : s.bs.length ≤ 1000000000)
    (hbs : s.bs.take (crK s k) = rcs Os ++ tl) (htl : whole tl = none) (hk : ∀ A O R, Os = A ++ O :: R → RecOk s.L0 s.B0 O (stR A ([], [])).1 (stR A ([], [])).2) :
    Calls Tryz.prog 10 #[.pointer (some ⟨p, 0, none⟩), .int .i64 k] w fun e w' => e = .returned (.tuple #[]) ∧ LgAt w' base p (crS s Os) ∧ FrL base w w' := by
  obtain ⟨vk0, vb0, vk, vb, vn, vt, vy, hp, hbp, hs0, hs1, hg, hy⟩ := id h
  obtain ⟨ay, cy, rfl⟩ := own_slice hy
  have y6 : w.cell? ⟨p, 6, none⟩ = some (.slice ay s.bs.length cy) := cell_at hp rfl
  have y7 : w.cell? ⟨p, 7, none⟩ = some (.int .i64 s.sf) := cell_at hp rfl
  have e1 : IntKind.i64.wrap ((s.bs.length : Int) - s.sf) = (s.bs.length : Int) - s.sf := by rw [IntKind.wrap_i64]; omega
  have hcy : s.bs.length ≤ cy := (By.of_own hy).len.2
  obtain ⟨⟨a0, l0, c0, rfl⟩, b0, m0, d0, rfl⟩ := hs0.sl
  obtain ⟨m, hm⟩ : ∃ m : Nat, m = crK s k := ⟨_, rfl⟩
  have hmi : (m : Int) = s.sf + min (max k 0) ((s.bs.length : Int) - s.sf) := by rw [hm]; unfold crK; omega
  have hmn : m ≤ s.bs.length := by omega
  have hmw : IntKind.i64.wrap (s.sf + min (max k 0) ((s.bs.length : Int) - s.sf)) = (m : Int) := by rw [← hmi, IntKind.wrap_i64]; omega
  have hmc : m ≤ cy := by omega
  have hmc' : (m : Int) ≤ (cy : Int) := by omega
  have hm0 : (0 : Int) ≤ (m : Int) := by omega
  have hrc : (rcs Os).length ≤ m := by
    have := congrArg List.length hbs
    rw [List.length_take, List.length_append, ← hm] at this
    omega
  have HR : Hid (∀ W, Below w.heap.size w W → Calls Tryz.prog 17 #[.agg #[.slice a0 l0 c0, .slice b0 m0 d0], .slice ay m cy] W fun e w' => ∃ p1 l1 c1 p2 l2 c2, e = .returned (.tuple #[.agg #[.slice a0 l0 c0, .slice b0 m0 d0, .slice p1 l1 c1, .slice p2 l2 c2], .int .i64 ((rcs Os).length : Int)]) ∧ GrAt w' base (.slice p1 l1 c1) (.slice p2 l2 c2) (stR Os ([], [])).1 (stR Os ([], [])).2 ∧ Below W.heap.size W w') := fun W hW => by
    have hbw : base ≤ W.heap.size := by have := hW.size; have := (Array.getElem?_eq_some_iff.1 hp).1; omega
    have hby : By W (.slice ay m cy) (rcs Os ++ tl) := by
      have := ((By.of_own hy).kt (.of_below hW)).take (k := m) hmn
      rwa [hm, hbs, ← hm] at this
    refine (replayed_any (base := base) (hs0.kt (fun t _ _ _ => .of_below hW)) hok.k0 hok.b0 hok.s0 hby htl (by rw [← hbs, List.length_take]; omega) (hE.on (hW.mono hE.sz)) hbw hk).mono ?_
    rintro e w' ⟨vn', vt', rfl, q1, q2⟩
    obtain ⟨⟨p1, l1, c1, rfl⟩, p2, l2, c2, rfl⟩ := q1.sl
    exact ⟨p1, l1, c1, p2, l2, c2, rfl, q1, q2⟩
  have HP := Lib.hid (And.intro hp (And.intro hbp (And.intro hs0 (And.intro hy (And.intro hbs hm)))))
  have hri : (0 : Int) ≤ ((rcs Os).length : Int) := by omega
  have hrcy : ((rcs Os).length : Int) ≤ (cy : Int) := by omega
  have hrcy' : (rcs Os).length ≤ cy := by omega
  have y0 : w.cell? ⟨p, 0, none⟩ = some (.slice a0 l0 c0) := cell_at hp rfl
  have y1 : w.cell? ⟨p, 1, none⟩ = some (.slice b0 m0 d0) := cell_at hp rfl
  clear h hok hE hbs htl hk hm hmi hs0 hs1 hg hy hcy h0 h1 hz hp
  generalize hlb : s.bs.length = n at *
  generalize hrl : (rcs Os).length = rl at *
  go_enter Tryz.func10, Tryz.ntmps10
  go_upto_region 0 with fail
  go_quiet (fail)
  have z6 : (w.drewN nq).cell? ⟨p, 6, none⟩ = some (.slice ay n cy) := y6
  have z7 : (w.drewN nq).cell? ⟨p, 7, none⟩ = some (.int .i64 s.sf) := y7
  have z0 : (w.drewN nq).cell? ⟨p, 0, none⟩ = some (.slice a0 l0 c0) := y0
  have z1 : (w.drewN nq).cell? ⟨p, 1, none⟩ = some (.slice b0 m0 d0) := y1
  have HB : Hid (Below w.heap.size w (w.drewN nq).drew) := bD (b_drewK (Below.refl _ _) nq)
  generalize w.drewN nq = W2 at *
  clear y6 y7 y0 y1
  go_upto_region 1 with fail
  go_region_law (fail)
  all_goals
    have t0 : W2.drew.cell? ⟨p, 0, none⟩ = some (.slice a0 l0 c0) := z0
    have t1 : W2.drew.cell? ⟨p, 1, none⟩ = some (.slice b0 m0 d0) := z1
    generalize W2.drew = W3 at *
    clear z6 z7 z0 z1
    go_wp2_with (first
      | (go_at_call 17; refine (HR.out _ HB.out).mono ?_; rintro e W4 ⟨p1, l1, c1, p2, l2, c2, rfl, hg4, hb4⟩; have hb5 := HB.out.trans (hb4.mono HB.out.size); have hp4 := (hb5.block _ (Array.getElem?_eq_some_iff.1 HP.out.1).1).trans HP.out.1; have u0 : W4.cell? ⟨p, 2, none⟩ = some vk := cell_at hp4 rfl; have u1 : W4.cell? ⟨p, 3, none⟩ = some vb := cell_at hp4 rfl; have u2 : W4.cell? ⟨p, 4, none⟩ = some vn := cell_at hp4 rfl; have u3 : W4.cell? ⟨p, 5, none⟩ = some vt := cell_at hp4 rfl; have u4 : W4.cell? ⟨p, 6, none⟩ = some (.slice ay n cy) := cell_at hp4 rfl; have u5 : W4.cell? ⟨p, 7, none⟩ = some (.int .i64 s.sf) := cell_at hp4 rfl; have u6 : W4.cell? ⟨p, 8, none⟩ = some (.int .i64 s.lf) := cell_at hp4 rfl; have u7 : W4.cell? ⟨p, 9, none⟩ = some (.bool s.st) := cell_at hp4 rfl; have f0 : W4.frozen? ⟨p, 2, none⟩ = false := frz_at hp4; have f1 : W4.frozen? ⟨p, 3, none⟩ = false := frz_at hp4; have f2 : W4.frozen? ⟨p, 4, none⟩ = false := frz_at hp4; have f3 : W4.frozen? ⟨p, 5, none⟩ = false := frz_at hp4; have f4 : W4.frozen? ⟨p, 6, none⟩ = false := frz_at hp4; have f5 : W4.frozen? ⟨p, 7, none⟩ = false := frz_at hp4; have f6 : W4.frozen? ⟨p, 8, none⟩ = false := frz_at hp4; have f7 : W4.frozen? ⟨p, 9, none⟩ = false := frz_at hp4; have H4 := Lib.hid (And.intro hp4 (And.intro hg4 hb5)); clear hp4 hg4 hb4 hb5)
      | fail)
    go_end0
    exact ⟨rfl, cr_fin hlb hrl HP.out H4.out⟩
abbrev aN : ByteArray := ⟨#[97]⟩
def ndsA (k : Nat) : List Nd := (List.range k).map fun i : Nat => (⟨(i : Int) + 1, aN, .nilIface, []⟩ : Nd)
def addO (v : Value) (k : Nat) : Opx := ⟨1, ⟨(k : Int) + 1, aN, v, []⟩, ⟨⟨#[]⟩, 0, 0, ⟨#[]⟩⟩, ⟨⟨#[]⟩, 0, 0⟩⟩
abbrev kA (vo vf : Value) : Kd := ⟨[97], [], [], vo, vf⟩
theorem ndsA_succ (k : Nat) : ndsA (k + 1) = ndsA k ++ [⟨(k : Int) + 1, aN, .nilIface, []⟩] := by unfold ndsA; rw [List.range_succ, List.map_append]; rfl
theorem conf_nds : ∀ k, k < 22 → confB [kA .nilIface .nilIface] [] (ndsA k) [] = true := by decide +kernel
theorem add_err0 : ∀ k, k < 21 → opS.err [addO .nilIface k] (ndsA k) [] = 0 := by decide +kernel
theorem drop_err0 : ∀ k, k < 22 → opS.err [⟨2, ⟨999, ⟨#[]⟩, .slice none 0 0, []⟩, ⟨⟨#[]⟩, 0, 0, ⟨#[]⟩⟩, ⟨⟨#[]⟩, 0, 0⟩⟩] (ndsA k) [] = 5 := by decide +kernel
theorem add_err {v : Value} {k : Nat} (hk : k < 21) : opS.err [addO v k] (ndsA k) [] = 0 := add_err0 k hk
theorem add_e0 : ∀ k, k < 21 → opE (addO .nilIface k) (ndsA k) [] = 0 := by decide +kernel
theorem add_lo : ∀ k : Nat, k < 21 → loN ((k : Int) + 1) (ndsA k) = (ndsA k).length := by decide +kernel
theorem add_res {v : Value} {k : Nat} (hk : k < 21) : opS.res [addO v k] (ndsA k) [] = (ndsA (k + 1), []) := by
  have h : opS.e (addO v k) (ndsA k) [] = 0 := add_e0 k hk
  unfold OpS.res
  rw [if_pos h]
  show (newM (addO v k).nd (ndsA k), ([] : List Te)) = _
  unfold newM
  rw [show loN (addO v k).nd.id (ndsA k) = (ndsA k).length from add_lo k hk, List.take_length, List.drop_length, ndsA_succ]
  rfl
theorem rd_one {X : List Opx} {v : Value} {k : Nat} (h : RdOf X [addO v k]) : ∃ v', X = [addO v' k] := by
  obtain ⟨h1, h2⟩ := h
  match X, h1, h2 with
  | [x], _, h2 =>
    obtain ⟨o, v', e, hx⟩ := h2 0 x rfl
    injection e with e
    subst e
    exact ⟨v', by rw [hx]; rfl⟩
theorem rec_add {v : Value} {k : Nat} (hk : k < 21) : RecOk [kA .nilIface .nilIface] [] [addO v k] (ndsA k) [] where
  i := fun o ho => by
    simp only [List.mem_singleton] at ho
    subst ho
    exact ⟨⟨by show (1 : Int) ≤ 1; decide, by show (1 : Int) ≤ 6; decide⟩, fun _ => ⟨⟨by show -9223372036854775808 ≤ (k : Int) + 1; omega, by show (k : Int) + 1 ≤ 9223372036854775807; omega⟩, fun p hp => by cases hp⟩, fun h => by (rcases h with h | h | h <;> exact absurd h (by show ¬ (1 : Int) = _; decide)), fun h => absurd h (by show ¬ (1 : Int) = 3; decide), fun h => by (rcases h with h | h <;> exact absurd h (by show ¬ (1 : Int) = _; decide))⟩
  x := fun X hX => by
    obtain ⟨v', rfl⟩ := rd_one hX
    refine ⟨fun o ho => ?_, by simp, add_err hk, by rw [add_res hk, add_res hk]⟩
    simp only [List.mem_singleton] at ho
    subst ho
    exact ⟨⟨by show 1 ≤ maxLen; decide, fun p hp => (by cases hp), Nat.zero_le _⟩, ⟨Nat.zero_le _, Nat.zero_le _⟩, Nat.zero_le _, .inl rfl⟩
  c := by rw [add_res hk]; exact conf_nds (k + 1) (by omega)
abbrev zsV : Value := .slice none 0 0
def opsA (k : Nat) : List (List Opx) := (List.range k).map fun i => [addO zsV i]
theorem opsA_succ (k : Nat) : opsA (k + 1) = opsA k ++ [[addO zsV k]] := by unfold opsA; rw [List.range_succ, List.map_append]; rfl
theorem stR_ops : ∀ k, k ≤ 21 → stR (opsA k) ([], []) = (ndsA k, [])
  | 0, _ => rfl
  | k + 1, h => by rw [opsA_succ, stR_snoc, stR_ops k (by omega)]; exact add_res (by omega)
theorem opsA_split {k : Nat} {A R : List (List Opx)} {O : List Opx} (h : opsA k = A ++ O :: R) : A.length < k ∧ A = opsA A.length ∧ O = [addO zsV A.length] := by
  have hl : k = A.length + (R.length + 1) := by have := congrArg List.length h; simpa [opsA] using this
  have hlt : A.length < k := by omega
  have ho : (opsA k)[A.length]? = some O := by rw [h, List.getElem?_append_right (Nat.le_refl _), Nat.sub_self]; rfl
  have ho2 : (opsA k)[A.length]? = some [addO zsV A.length] := by unfold opsA; rw [List.getElem?_map, List.getElem?_range hlt]; rfl
  refine ⟨hlt, ?_, by rw [ho] at ho2; injection ho2⟩
  have ht : A = (opsA k).take A.length := by rw [h, List.take_left]
  have ht2 : (opsA k).take A.length = opsA A.length := by unfold opsA; rw [← List.map_take, List.take_range, Nat.min_eq_left (Nat.le_of_lt hlt)]
  rw [← ht2]; exact ht
theorem rec_ops {k : Nat} (hk : k ≤ 21) {A R : List (List Opx)} {O : List Opx} (h : opsA k = A ++ O :: R) : RecOk [kA .nilIface .nilIface] [] O (stR A ([], [])).1 (stR A ([], [])).2 := by
  obtain ⟨h1, h2, rfl⟩ := opsA_split h
  rw [h2, stR_ops _ (by omega), ← h2]
  exact rec_add (by omega)
theorem rec_len : ∀ k, k < 21 → (recL (encE0 [addO zsV k])).length ≤ 60 := by decide +kernel
theorem rcs_len : ∀ k, k ≤ 21 → (rcs (opsA k)).length ≤ 60 * k
  | 0, _ => by decide
  | k + 1, h => by
    have h1 := rcs_len k (by omega)
    have h2 := rec_len k (by omega)
    rw [opsA_succ, rcs_snoc, List.length_append]
    omega
end Go.Proofs.YtahamkajkkkjdaaGreatDoor
