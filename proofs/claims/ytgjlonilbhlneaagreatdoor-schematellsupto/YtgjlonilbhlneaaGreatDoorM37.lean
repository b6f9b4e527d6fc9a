/-
  A round of kinref1.ReadSchema: the line of a kind that comes of none.
-/
import Derived.Test.YtgjlonilbhlneaaGreatDoorM35
import Derived.Test.YtgjlonilbhlneaaGreatDoorM36
import Derived.Deep.DeepCutAuto
namespace Go.Proofs.YtgjlonilbhlneaaGreatDoor
open Go.RowKit
set_option linter.unusedVariables false
set_option linter.unusedSimpArgs false

set_option maxHeartbeats 16000000 in
set_option maxRecDepth 1000000 in
theorem rd_kind_plain {s0 b1 b2 : Nat} {w wr : World} {L : List Kd} {B : List Bd} {vk vb : Value} {al : Option Addr} {nl cl : Nat} {ls : List Nm} {k : Nat} {last : Int} (hS : RdS s0 w L B vk vb (.slice al nl cl) ls wr) (hs : s0 ≤ w.heap.size) (hb1 : b1 = s0 + 1) (hb2 : b2 = s0 + 2) {y : Nm} (hy : ls[k]? = some y) (hyl : y.length ≤ 10000000) (hnl : nl = ls.length) (hlm : ls.length ≤ 10000001) (hk : (k : Int) < last) (hLn : L.length ≤ k) (hBn : B.length ≤ k) {x0 : Nm} {xs : List Nm} (hW : pcs 32 y = x0 :: xs) {x1 : Nm} {r : List Nm} (hp1 : (x0 == [107, 105, 110, 100]) = true) (hp2 : (x0 == [98, 111, 110, 100]) = false) (hB : B = []) (hp3 : xs = x1 :: r) (hw1 : wrd x1 = true) (hr : r.length ≤ 1 ∨ (2 ≤ r.length ∧ ∃ o, r[0]? = some o ∧ (o == [111, 102]) = false)) (hkd : kdOf (x0 :: x1 :: r) = some (x1, [], r))
    {K : Act → World → Prop} {Q : Exit → Act → World → Prop} (u0 u1 u3 u4 u10 u11 u12 u13 u14 u15 u16 u17 u18 u19 u20 u21 u22 u23 u24 u25 u26 u27 u28 u29 u30 u31 u32 u33 u34 u35 u36 u37 u38 u39 u40 u41 u42 u43 u44 u45 u46 u47 u48 u49 u50 u51 u52 u53 u54 u55 u56 u57 u58 u59 u60 u61 u62 u63 u64 u65 u66 u67 u68 u69 u70 u71 u72 u73 u74 u75 u76 u77 u78 u79 u80 u81 u82 u83 u84 u85 u86 u87 u88 u89 u90 u91 u92 u93 u94 u95 u96 u97 u98 u99 u100 u101 u102 u103 u104 u105 u106 u107 u108 u109 u110 u111 u112 u113 u114 u115 u116 u117 u118 u119 u120 u121 u122 u123 u124 u125 u126 u127 u128 u129 u130 u131 u132 u133 u134 u135 u136 u137 u138 u139 u140 u141 u142 u143 u144 u145 u146 u147 u148 u149 u150 u151 u152 u153 u154 u155 u156 u157 u158 u159 u160 u161 u162 u163 u164 u165 u166 u167 u168 u169 u170 u171 u172 u173 u174 u175 u176 u177 u178 u179 u180 u181 u182 u183 u184 u185 u186 u187 u188 u189 u190 u191 u192 u193 u194 u195 u196 u197 u198 u199 u200 u201 u202 u203 u204 u205 u206 u207 u208 u209 u210 u211 u212 u213 u214 u215 u216 u217 u218 u219 u220 u221 u222 u223 u224 u225 u226 u227 u228 u229 u230 u231 u232 u233 u234 u235 u236 u237 u238 u239 u240 u241 u242 u243 u244 u245 u246 u247 u248 u249 u250 u251 u252 u253 u254 u255 u256 u257 u258 u259 u260 u261 u262 u263 u264 u265 u266 u267 u268 u269 u270 u271 u272 u273 u274 u275 u276 u277 u278 u279 u280 : Value) (hret : Hid (rLine (L.map kq) B (x0 :: xs) = none → RdRet s0 w (k : Int) Q)) (hK : RdKeep s0 b1 b2 w L B al nl cl ls k last (x0 :: xs) K u0 u1 u28 u29 u30 u31 u32 u33 u34 u267 u268 u269 u270 u271 u272 u273 u274 u275 u276 u277 u278 u279 u280) :
    Code.wp Tryz.prog (rdL 0) (Exit.then K Q) ⟨#[u0, u1, .pointer (some ⟨s0, 0, none⟩), u3, u4, .slice (some ⟨b1, 0, none⟩) 4 4, .pointer (some ⟨b2, 0, none⟩), .slice al nl cl, .int .i64 last, .int .i64 (k : Int), u10, u11, u12, u13, u14, u15, u16, u17, u18, u19, u20, u21, u22, u23, u24, u25, u26, u27, u28, u29, u30, u31, u32, u33, u34, u35, u36, u37, u38, u39, u40, u41, u42, u43, u44, u45, u46, u47, u48, u49, u50, u51, u52, u53, u54, u55, u56, u57, u58, u59, u60, u61, u62, u63, u64, u65, u66, u67, u68, u69, u70, u71, u72, u73, u74, u75, u76, u77, u78, u79, u80, u81, u82, u83, u84, u85, u86, u87, u88, u89, u90, u91, u92, u93, u94, u95, u96, u97, u98, u99, u100, u101, u102, u103, u104, u105, u106, u107, u108, u109, u110, u111, u112, u113, u114, u115, u116, u117, u118, u119, u120, u121, u122, u123, u124, u125, u126, u127, u128, u129, u130, u131, u132, u133, u134, u135, u136, u137, u138, u139, u140, u141, u142, u143, u144, u145, u146, u147, u148, u149, u150, u151, u152, u153, u154, u155, u156, u157, u158, u159, u160, u161, u162, u163, u164, u165, u166, u167, u168, u169, u170, u171, u172, u173, u174, u175, u176, u177, u178, u179, u180, u181, u182, u183, u184, u185, u186, u187, u188, u189, u190, u191, u192, u193, u194, u195, u196, u197, u198, u199, u200, u201, u202, u203, u204, u205, u206, u207, u208, u209, u210, u211, u212, u213, u214, u215, u216, u217, u218, u219, u220, u221, u222, u223, u224, u225, u226, u227, u228, u229, u230, u231, u232, u233, u234, u235, u236, u237, u238, u239, u240, u241, u242, u243, u244, u245, u246, u247, u248, u249, u250, u251, u252, u253, u254, u255, u256, u257, u258, u259, u260, u261, u262, u263, u264, u265, u266, u267, u268, u269, u270, u271, u272, u273, u274, u275, u276, u277, u278, u279, u280], []⟩ wr := by
  have HP3 := Lib.hid hp3
  have HB0 := Lib.hid hB
  have hBl0 : ((B.length : Int) == 0) = true := by rw [hB]; rfl
  have HKd : Hid (kdOf (x0 :: x1 :: r) = some (x1, [], r) ∧ wrd x1 = true) := ⟨hkd, hw1⟩
  clear hp3 hB hkd
  obtain ⟨ab, cb, evb⟩ := own_slice hS.ob
  obtain ⟨ak, ck, evk⟩ := own_slice hS.ok
  subst evb evk
  have hb : ∃ b o c, Value.slice al nl cl = .slice (some ⟨b, o, none⟩) nl c ∧ b < wr.heap.size ∧ wr.cell? ⟨b, o + k, none⟩ = some (.string (bs y)) := by
    rcases own_isS hS.ol with ⟨ao, c, e, e2, _⟩ | ⟨b, o, c, e, h1, h2, h3, h4⟩
    · rw [e2] at hy; cases hy
    · rw [hnl]; rw [hnl] at e; exact ⟨b, o, c, e, h3, h4 k y hy⟩
  obtain ⟨bl, ol, cl', e1, hbl, cy⟩ := hb
  injection e1 with e1 _ e2
  subst e1 e2
  have hki : (k : Int) < (nl : Int) := by have := (List.getElem?_eq_some_iff.1 hy).1; omega
  have cC := fun W => rcut_any 32 y W hyl
  rw [show (((32 : UInt8).toNat : Nat) : Int) = 32 from rfl, cutR_eq, hW] at cC
  have HS : Hid (RdS s0 w L B (.slice ak L.length ck) (.slice ab B.length cb) (.slice (some ⟨bl, ol, none⟩) nl cl) ls wr) := hS
  have hkn : (k : Int) ≤ 10000001 := by have := (List.getElem?_eq_some_iff.1 hy).1; omega
  have HX : Hid (xs.length ≤ 10000000 ∧ ∀ x ∈ x0 :: xs, x.length ≤ 10000000) := by
    have := pcs_many 32 y
    rw [hW] at this
    simp at this
    exact ⟨by omega, fun x hx => Nat.le_trans (pcs_le 32 y x (by rw [hW]; exact hx)) hyl⟩
  have HY : Hid (b1 = s0 + 1 ∧ b2 = s0 + 2 ∧ s0 ≤ w.heap.size) := ⟨hb1, hb2, hs⟩
  have HLB : Hid (L.length ≤ k ∧ B.length ≤ k ∧ k ≤ 10000001) := ⟨hLn, hBn, by omega⟩
  clear hS hy hyl hlm hW hnl hb1 hb2 hs hLn hBn
  conv => arg 2; whnf
  go_wp2_with (first | (go_at_call 30; refine (cC _).mono ?_; rintro e W1 ⟨v, rfl, hv, hB1⟩; obtain ⟨av, cv, rfl⟩ := own_slice hv; refine Hid.out ?_))
  refine Lib.hid ?_
  have hv' : ∃ b o, av = some ⟨b, o, none⟩ ∧ b < W1.heap.size ∧ LiesS W1 b o (x0 :: xs) := by
    rcases own_isS hv with ⟨ao, c, e, e2, _⟩ | ⟨b, o, c, e, h1, h2, h3, h4⟩
    · cases e2
    · injection e with e _ _; exact ⟨b, o, e, h3, h4⟩
  obtain ⟨bw, ow, rfl, hbw, hWL⟩ := hv'
  have HW1 : Hid (RdS s0 w L B (.slice ak L.length ck) (.slice ab B.length cb) (.slice (some ⟨bl, ol, none⟩) nl cl) ls W1 ∧ LiesS W1 bw ow (x0 :: xs) ∧ bw < W1.heap.size) := ⟨HS.out.below HY.out.2.2 hB1, hWL, hbw⟩
  have w0 : W1.cell? ⟨bw, ow, none⟩ = some (.string (bs x0)) := hWL 0 x0 rfl
  have g2 := HW1.out.1.r2
  rw [← HY.out.2.1] at g2
  have gk := cellB (i := 0) g2 rfl
  have gb := cellB (i := 1) g2 rfl
  have g0 := cellB (i := 0) HW1.out.1.r0 rfl
  have g1 := cellB (i := 1) HW1.out.1.r0 rfl
  have f0 := frzB (i := 0) HW1.out.1.r0
  have f1 := frzB (i := 1) HW1.out.1.r0
  clear hv hWL hbw g2 hbl cy hB1 cC
  have hp3 := HP3.out
  subst hp3
  clear HP3
  have HBad : Hid ((([] : List Nm).all wrd && r.all fun l => (rFd l).isSome) = false → rLine (L.map kq) B (x0 :: x1 :: r) = none) := fun h => by rw [HB0.out]; exact kd_bad rfl hp2 HKd.out.1 HKd.out.2 h
  have wc1 : W1.cell? ⟨bw, ow + 1, none⟩ = some (.string (bs x1)) := HW1.out.2.1 1 x1 rfl
  have cW := fun W => rword_any x1 W (by have := HX.out.2 x1 (by simp); unfold maxLen; omega)
  rw [hw1] at cW
  have hrl : (r.length : Int) ≤ 10000000 := by have := HX.out.1; simp at this; omega
  have hr2 : (2 : Int) ≤ (r.length : Int) + 1 + 1 := by omega
  obtain ⟨W2, hW2⟩ : ∃ W2, W2 = W1.alloc (.cells #[.string (bs x1), .slice none 0 0, .slice none 0 0] 55) := ⟨_, rfl⟩
  have HW2 := Lib.hid hW2
  have n2 : W2.heap[W1.heap.size]? = some (.cells #[.string (bs x1), .slice none 0 0, .slice none 0 0] 55 (0, 0)) := by rw [hW2]; exact heap_alloc_new W1 _
  have hB2 : Below W1.heap.size W1 W2 := by rw [hW2]; exact b_alloc (Below.refl _ _) (Nat.le_refl _) _
  have hz2' : W2.heap.size = W1.heap.size + 1 := by rw [hW2]; simp
  have HFS0 : Hid (FlS W1 W2 W1.heap.size x1 (.slice none 0 0) (.slice none 0 0) W2) := ⟨n2, fun _ _ _ => rfl, Nat.le_refl _, hB2, by omega, rfl⟩
  have HI0 : Hid (FlI W1 W2 W1.heap.size x1 (.slice none 0 0) ([] : List Nm) r 2 (.bool true) (.int .i64 2) W2) := ⟨0, true, none, 0, 0, Nat.zero_le _, rfl, rfl, HFS0.out, fun _ => ⟨rfl, rfl, [], rfl, World.ownsRow_nil _ _ _ _⟩, fun h => by cases h⟩
  have kc1 := cellB (i := 1) n2 rfl
  have HVo : Hid (∀ (wE : World) (v : Value), FlS W1 W2 W1.heap.size x1 (.slice none 0 0) v wE → wE.ownsRow (s0 + 3) 9 1 (.slice none 0 0) ([] : List Nm).length (cellsS ([] : List Nm))) := fun wE v _ => World.ownsRow_nil _ _ _ _
  have HAt : Hid (∀ j x, r[j]? = some x → (x0 :: x1 :: r)[2 + j]? = some x) := fun j x h => by rw [Nat.add_comm]; exact h
  have HMem : Hid (∀ x ∈ r, x ∈ x0 :: x1 :: r) := fun x h => by simp [h]
  have HLen : Hid ((x0 :: x1 :: r).length = r.length + 2) := rfl
  have HM : Hid (L.length + 1 ≤ maxLen ∧ (L.length + 1) * 64 ≤ 140737488355328) := by have := HLB.out; unfold maxLen; exact ⟨by omega, by omega⟩
  have hBl : Hid (B.length ≤ k + 1) := by have := HLB.out.2.1; show _ ≤ _; omega
  have HGood : Hid (∀ (wE : World) (a : Option Addr) (n c : Nat), RdS s0 w L B (.slice ak L.length ck) (.slice ab B.length cb) (.slice (some ⟨bl, ol, none⟩) nl cl) ls wE → FlS W1 W2 W1.heap.size x1 (.slice none 0 0) (.slice a n c) wE → ∀ fs : List Fd, (r).map rFd = fs.map some → wE.ownsRow W2.heap.size 52 4 (.slice a n c) (r).length (cellsF fs) → ([] : List Nm).all wrd = true → ∀ (w1 : World) (v1 : Value), w1.ownsRow (s0 + 3) 55 3 v1 (L.length + 1) (cellsK L ++ [.string (bs x1), (.slice none 0 0), .slice a n c]) → (wE.alloc (.cells #[.string (bs x1), (.slice none 0 0), .slice a n c] 55)).grownBy w1 (Value.slice ak L.length ck).ownBlock → ∃ L' : List Kd, RdS s0 w L' B v1 (.slice ab B.length cb) (.slice (some ⟨bl, ol, none⟩) nl cl) ls (w1.setCell ⟨b2, 0, none⟩ v1) ∧ rLine (L.map kq) B (x0 :: x1 :: r) = some (L'.map kq, B) ∧ L'.length ≤ k + 1) := fun wE a n c hRE hFE fs hfs hown hall w1 v1 ho hg => by
    have hA := b_alloc (Below.refl _ wE) (Nat.le_refl _) (.cells #[.string (bs x1), (.slice none 0 0), .slice a n c] 55)
    have hlen : fs.length = (r).length := by have := congrArg List.length hfs; simpa using this.symm
    have hw2 : s0 + 3 ≤ W2.heap.size := by have := HW1.out.1.sz; have := hFE.kl; omega
    refine ⟨L ++ [⟨x1, ([] : List Nm), fs, (.slice none 0 0), .slice a n c⟩], ?_, ?_, ?_⟩
    · rw [HY.out.2.1]
      exact (hRE.below HY.out.2.2 hA).addK (k := ⟨x1, ([] : List Nm), fs, (.slice none 0 0), .slice a n c⟩) HY.out.2.2 (own_bel (HVo.out wE _ hFE) hA) (own_bel (own_base (by rw [hlen]; exact hown) hw2) hA) ho hg
    · rw [HB0.out, List.map_append]
      exact kd_good HKd.out.1 HKd.out.2 hall hfs
    · rw [List.length_append]; have := HLB.out.1; simp; omega
  clear hW2 n2 hB2 hz2' gk g0 g1 f0 f1 hw1
  have hwo : r.length ≤ 1 ∨ (2 ≤ r.length ∧ ∃ o, W2.cell? ⟨bw, ow + 2, none⟩ = some (.string (bs o)) ∧ (o == [111, 102]) = false) := by
    rcases hr with h | ⟨h, o, h1, h2⟩
    · exact .inl h
    · exact .inr ⟨h, o, (HFS0.out.bl.cell (p := ⟨bw, ow + 2, none⟩) HW1.out.2.2).trans (HW1.out.2.1 2 o h1), h2⟩
  clear hr
  go_upto_region 14 with (first | (go_at_call 31; refine (cW _).mono ?_; rintro e w' ⟨rfl, hw⟩; have hw := hw.symm; subst hw))
  rw [← HW2.out]
  clear wc1 w0 gb cW
  rcases hwo with h | ⟨h, o, h1, h2⟩
  all_goals
    first
    | have h3 : ¬ (3 : Int) < (r.length : Int) + 1 + 1 := by omega
    | have h3 : (3 : Int) < (r.length : Int) + 1 + 1 := by omega
    go_wp2
    go_loop [11, 14] (fun s11 s14 => s11 = .bool true ∧ s14 = .int .i64 0) (fun _ _ => 0)
    case atStart => exact ⟨rfl, rfl⟩
    case round =>
      obtain ⟨rfl, rfl⟩ := hrel
      clear h h3
      (try clear h1 h2)
      go_wp2
      obtain ⟨Wo, hWo⟩ : ∃ Wo, Wo = wr := ⟨_, rfl⟩
      subst hWo
      go_loopw [11, 13] (fun s11 s13 wq => FlI W1 W2 W1.heap.size x1 (.slice none 0 0) ([] : List Nm) r 2 s11 s13 wq) (fun _ s13 _ => (r).length + 2 - (intOf s13).toNat)
      case atStart => exact HI0.out
      case round =>
        obtain ⟨j, ok, a, n, c, hj, rfl, rfl, hFl, hgood, hbad⟩ := hrel
        obtain ⟨i0, hi0, hz0, hz1, hz2⟩ := info_parts info61
        cases ok
        · have hb := Lib.hid (hbad rfl)
          clear hgood hbad
          by_cases hlt : j < (r).length
          · have hltI : ((2 + j : Nat) : Int) < ((r.length : Int) + 1 + 1) := by omega
            simp only [Int.natCast_add, Int.cast_ofNat_Int] at hltI ⊢
            have hRe := HW1.out.1.below HY.out.2.2 (by have := (hFl).bl; exact this)
            have g2e := hRe.r2
            rw [← HY.out.2.1] at g2e
            have gke := cellB (i := 0) g2e rfl
            have kc0 := cellB (i := 0) (hFl).kbl rfl
            have kc1 := cellB (i := 1) (hFl).kbl rfl
            have kc2 := cellB (i := 2) (hFl).kbl rfl
            have hkn : ¬ W1.heap.size = wr.heap.size := by have := (Array.getElem?_eq_some_iff.1 (hFl).kbl).1; omega
            have hbn : ¬ b2 = wr.heap.size := by have := (Array.getElem?_eq_some_iff.1 g2e).1; omega
            have HO := Lib.hid (And.intro (hRe.below HY.out.2.2 (b_alloc (Below.refl _ wr) (Nat.le_refl _) (.cells #[.string (bs x1), (.slice none 0 0), .slice a n c] 55))).ok (hRe.below HY.out.2.2 (b_alloc (Below.refl _ wr) (Nat.le_refl _) (.cells #[.string (bs x1), (.slice none 0 0), .slice a n c] 55))).sz)
            have HRE := Lib.hid (And.intro hRe (hFl))
            clear hRe g2e
            go_wp2_with (first | (at_builtin; refine wpList_append_own _ rfl (.tmp 186) (.tmp 188) 22 rfl (s0 + 3) 55 i0 _ 3 64 Tryz.underlying22 hi0 hz0 hz1 hz2 rfl (by decide) (.slice ak L.length ck) L.length (cellsK L) rfl HO.out.1 ⟨wr.heap.size, 0, none⟩ 1 1 [.string (bs x1), (.slice none 0 0), .slice a n c] rfl rfl (new_at _ _ _) (by simp [Value.oneCell']) HM.out.1 HM.out.2 HO.out.2 ?_; intro v1 w1 hown1 hgrow1 _; obtain ⟨⟨g0', g1'⟩, hr0, hbl⟩ := rd_addK (v1 := v1) HRE.out.1 HY.out.2.2 HY.out.2.1 hgrow1; have HF2 := Lib.hid (And.intro hown1 hgrow1); obtain ⟨a1, c1, rfl⟩ := own_slice hown1; have e0 := cellB (i := 0) hr0 rfl; have e1 := cellB (i := 1) hr0 rfl; have e2 := frzB (i := 0) hr0; have e3 := frzB (i := 1) hr0; have Hr0 := Lib.hid (And.intro hr0 hbl); clear hr0 hbl hown1 hgrow1))
            exact hret.out (HBad.out hb.out) _ _ rfl rfl rfl rfl (ret_set Hr0.out.1 Hr0.out.2).1 (ret_set Hr0.out.1 Hr0.out.2).2
          · have hltI : ¬ ((2 + j : Nat) : Int) < ((r.length : Int) + 1 + 1) := by omega
            simp only [Int.natCast_add, Int.cast_ofNat_Int] at hltI ⊢
            have hRe := HW1.out.1.below HY.out.2.2 (by have := (hFl).bl; exact this)
            have g2e := hRe.r2
            rw [← HY.out.2.1] at g2e
            have gke := cellB (i := 0) g2e rfl
            have kc0 := cellB (i := 0) (hFl).kbl rfl
            have kc1 := cellB (i := 1) (hFl).kbl rfl
            have kc2 := cellB (i := 2) (hFl).kbl rfl
            have hkn : ¬ W1.heap.size = wr.heap.size := by have := (Array.getElem?_eq_some_iff.1 (hFl).kbl).1; omega
            have hbn : ¬ b2 = wr.heap.size := by have := (Array.getElem?_eq_some_iff.1 g2e).1; omega
            have HO := Lib.hid (And.intro (hRe.below HY.out.2.2 (b_alloc (Below.refl _ wr) (Nat.le_refl _) (.cells #[.string (bs x1), (.slice none 0 0), .slice a n c] 55))).ok (hRe.below HY.out.2.2 (b_alloc (Below.refl _ wr) (Nat.le_refl _) (.cells #[.string (bs x1), (.slice none 0 0), .slice a n c] 55))).sz)
            have HRE := Lib.hid (And.intro hRe (hFl))
            clear hRe g2e
            go_wp2_with (first | (at_builtin; refine wpList_append_own _ rfl (.tmp 186) (.tmp 188) 22 rfl (s0 + 3) 55 i0 _ 3 64 Tryz.underlying22 hi0 hz0 hz1 hz2 rfl (by decide) (.slice ak L.length ck) L.length (cellsK L) rfl HO.out.1 ⟨wr.heap.size, 0, none⟩ 1 1 [.string (bs x1), (.slice none 0 0), .slice a n c] rfl rfl (new_at _ _ _) (by simp [Value.oneCell']) HM.out.1 HM.out.2 HO.out.2 ?_; intro v1 w1 hown1 hgrow1 _; obtain ⟨⟨g0', g1'⟩, hr0, hbl⟩ := rd_addK (v1 := v1) HRE.out.1 HY.out.2.2 HY.out.2.1 hgrow1; have HF2 := Lib.hid (And.intro hown1 hgrow1); obtain ⟨a1, c1, rfl⟩ := own_slice hown1; have e0 := cellB (i := 0) hr0 rfl; have e1 := cellB (i := 1) hr0 rfl; have e2 := frzB (i := 0) hr0; have e3 := frzB (i := 1) hr0; have Hr0 := Lib.hid (And.intro hr0 hbl); clear hr0 hbl hown1 hgrow1))
            exact hret.out (HBad.out hb.out) _ _ rfl rfl rfl rfl (ret_set Hr0.out.1 Hr0.out.2).1 (ret_set Hr0.out.1 Hr0.out.2).2
        · obtain ⟨hall, hnj, fs, hfs, hown⟩ := hgood rfl
          have hnj := hnj.symm
          subst hnj
          clear hgood hbad
          by_cases hlt : j < (r).length
          · obtain ⟨x, hx⟩ : ∃ x, (r)[j]? = some x := ⟨(r)[j], by simp [hlt]⟩
            have hRe := HW1.out.1.below HY.out.2.2 (by have := hFl.bl; exact this)
            have hT := hRe.r1
            rw [← HY.out.1] at hT
            have hw : wr.cell? ⟨bw, ow + (2 + j), none⟩ = some (.string (bs x)) := (hFl.bl.cell (p := ⟨bw, ow + (2 + j), none⟩) HW1.out.2.2).trans (HW1.out.2.1 (2 + j) x (HAt.out j x hx))
            have hxl : x.length ≤ 10000000 := HX.out.2 x (HMem.out x (List.mem_of_getElem? hx))
            have hat : ((2 + j : Nat) : Int) < (((x0 :: x1 :: r).length : Nat) : Int) := by have := HLen.out; omega
            have hnw : (((x0 :: x1 :: r).length : Nat) : Int) ≤ 10000002 := by have := HX.out.1; simp at this ⊢; omega
            have hj2 : j ≤ 10000002 := by have := HX.out.1; have := HLen.out; simp at this; omega
            have HN : Hid (∀ (ok : Bool) (a' : Option Addr) (n' c' : Nat) (w' : World), FlS W1 W2 W1.heap.size x1 (.slice none 0 0) (.slice a' n' c') w' → (ok = true → ∃ f, rFd x = some f ∧ n' = j + 1 ∧ w'.ownsRow W2.heap.size 52 4 (.slice a' n' c') (j + 1) (cellsF fs ++ f.cells)) → (ok = false → rFd x = none) → FlI W1 W2 W1.heap.size x1 (.slice none 0 0) ([] : List Nm) r 2 (.bool ok) (.int .i64 (((2 + j : Nat) : Int) + 1)) w') := fun ok a' n' c' w' h1 h2 h3 => fl_next hx hall hfs h1 h2 h3
            have HNo : Hid (rFd x = none → (([] : List Nm).all wrd && (r).all fun l => (rFd l).isSome) = false) := fun h => by
              rw [Bool.and_eq_false_iff]; right
              rw [Bool.eq_false_iff]
              intro e
              have := List.all_eq_true.1 e x (List.mem_of_getElem? hx)
              rw [h] at this
              cases this
            clear hRe hx hfs hall
            by_cases h2 : (pcs 58 x).length = 2
            · obtain ⟨pa, py, hpp⟩ : ∃ pa py, pcs 58 x = [pa, py] := by
                match hh : pcs 58 x, h2 with
                | [pa, py], _ => exact ⟨pa, py, rfl⟩
              cases hwa : wrd pa
              · refine rd_field_no2 hFl hown hT hw hat hnw hj2 hxl hpp hwa _ _ _ _ _ _ _ _ _ _ _ _ _ _ _ _ _ _ _ _ _ _ _ _ _ _ _ _ _ _ _ _ _ _ _ _ _ _ _ _ _ _ _ _ _ _ _ _ _ _ _ _ _ _ _ _ _ _ _ _ _ _ _ _ _ _ _ _ _ _ _ _ _ _ _ _ _ _ _ _ _ _ _ _ _ _ _ _ _ _ _ _ _ _ _ _ _ _ _ _ _ _ _ _ _ _ _ _ _ _ _ _ _ _ _ _ _ _ _ _ _ _ _ _ _ _ _ _ _ _ _ _ _ _ _ _ _ _ _ _ _ _ _ _ _ _ _ _ _ _ _ _ _ _ _ _ _ _ _ _ _ _ _ _ _ _ _ _ _ _ _ _ _ _ _ _ _ _ _ _ _ _ _ _ _ _ _ _ _ _ _ _ _ _ _ _ _ _ _ _ _ _ _ _ _ _ _ _ _ _ _ _ _ _ _ _ _ _ _ _ _ _ _ _ _ _ _ _ _ _ _ _ _ _ _ _ _ _ _ _ _ _ _ _ _ _ _ _ _ _ _ _ _ _ _ _ _ _ _ _ _ _ _ _ _ _ _ _ _ _ _ _ _ _ _ _ ?_
                unfold FlOut
                intro q16 q17 q18 q19 q101 q102 q103 q104 q105 q106 q107 q108 q109 q110 q111 q112 q113 q114 q115 q116 q117 q118 q119 q120 q121 q122 q123 q124 q125 q126 q127 q128 q129 q130 q131 q132 q133 q134 q135 q136 q137 q138 q139 q140 q141 q142 q143 q144 q145 q146 q147 q148 q149 q150 q151 q152 q153 q154 q155 q156 q157 q158 q159 q160 q161 q162 q163 q164 q165 q166 q167 q168 q169 q170 q171 q172 q173 q174 q175 q176 q177 q178 q179 q180 q181 q182 q183 q184 w' hFl' hno
                obtain ⟨a, c, e⟩ : ∃ a' c', Value.slice a j c = .slice a' j c' := ⟨_, _, rfl⟩
                injection e with e1 _ e2
                subst e1 e2
                have hb := Lib.hid (HNo.out hno)
                obtain ⟨n, hn⟩ : ∃ n, n = j := ⟨_, rfl⟩
                rw [← hn] at hFl' 
                clear hno hFl hown hn hat hnw hj2 hxl hw hT h2
                (try clear hpp hwa)
                have hRe := HW1.out.1.below HY.out.2.2 (by have := (hFl').bl; exact this)
                have g2e := hRe.r2
                rw [← HY.out.2.1] at g2e
                have gke := cellB (i := 0) g2e rfl
                have kc0 := cellB (i := 0) (hFl').kbl rfl
                have kc1 := cellB (i := 1) (hFl').kbl rfl
                have kc2 := cellB (i := 2) (hFl').kbl rfl
                have hkn : ¬ W1.heap.size = w'.heap.size := by have := (Array.getElem?_eq_some_iff.1 (hFl').kbl).1; omega
                have hbn : ¬ b2 = w'.heap.size := by have := (Array.getElem?_eq_some_iff.1 g2e).1; omega
                have HO := Lib.hid (And.intro (hRe.below HY.out.2.2 (b_alloc (Below.refl _ w') (Nat.le_refl _) (.cells #[.string (bs x1), (.slice none 0 0), .slice a n c] 55))).ok (hRe.below HY.out.2.2 (b_alloc (Below.refl _ w') (Nat.le_refl _) (.cells #[.string (bs x1), (.slice none 0 0), .slice a n c] 55))).sz)
                have HRE := Lib.hid (And.intro hRe (hFl'))
                clear hRe g2e
                go_wp2_with (first | (at_builtin; refine wpList_append_own _ rfl (.tmp 186) (.tmp 188) 22 rfl (s0 + 3) 55 i0 _ 3 64 Tryz.underlying22 hi0 hz0 hz1 hz2 rfl (by decide) (.slice ak L.length ck) L.length (cellsK L) rfl HO.out.1 ⟨w'.heap.size, 0, none⟩ 1 1 [.string (bs x1), (.slice none 0 0), .slice a n c] rfl rfl (new_at _ _ _) (by simp [Value.oneCell']) HM.out.1 HM.out.2 HO.out.2 ?_; intro v1 w1 hown1 hgrow1 _; obtain ⟨⟨g0', g1'⟩, hr0, hbl⟩ := rd_addK (v1 := v1) HRE.out.1 HY.out.2.2 HY.out.2.1 hgrow1; have HF2 := Lib.hid (And.intro hown1 hgrow1); obtain ⟨a1, c1, rfl⟩ := own_slice hown1; have e0 := cellB (i := 0) hr0 rfl; have e1 := cellB (i := 1) hr0 rfl; have e2 := frzB (i := 0) hr0; have e3 := frzB (i := 1) hr0; have Hr0 := Lib.hid (And.intro hr0 hbl); clear hr0 hbl hown1 hgrow1))
                exact hret.out (HBad.out hb.out) _ _ rfl rfl rfl rfl (ret_set Hr0.out.1 Hr0.out.2).1 (ret_set Hr0.out.1 Hr0.out.2).2
              · rcases List.eq_nil_or_concat py with hy | ⟨z, cc, hy⟩
                · refine rd_field_g1 hFl hown hT hw hat hnw hj2 hxl hpp hwa hy _ _ _ _ _ _ _ _ _ _ _ _ _ _ _ _ _ _ _ _ _ _ _ _ _ _ _ _ _ _ _ _ _ _ _ _ _ _ _ _ _ _ _ _ _ _ _ _ _ _ _ _ _ _ _ _ _ _ _ _ _ _ _ _ _ _ _ _ _ _ _ _ _ _ _ _ _ _ _ _ _ _ _ _ _ _ _ _ _ _ _ _ _ _ _ _ _ _ _ _ _ _ _ _ _ _ _ _ _ _ _ _ _ _ _ _ _ _ _ _ _ _ _ _ _ _ _ _ _ _ _ _ _ _ _ _ _ _ _ _ _ _ _ _ _ _ _ _ _ _ _ _ _ _ _ _ _ _ _ _ _ _ _ _ _ _ _ _ _ _ _ _ _ _ _ _ _ _ _ _ _ _ _ _ _ _ _ _ _ _ _ _ _ _ _ _ _ _ _ _ _ _ _ _ _ _ _ _ _ _ _ _ _ _ _ _ _ _ _ _ _ _ _ _ _ _ _ _ _ _ _ _ _ _ _ _ _ _ _ _ _ _ _ _ _ _ _ _ _ _ _ _ _ _ _ _ _ _ _ _ _ _ _ _ _ _ _ _ _ _ _ _ _ _ _ _ ?_
                  unfold FlKeep
                  intro q16 q17 q18 q19 q101 q102 q103 q104 q105 q106 q107 q108 q109 q110 q111 q112 q113 q114 q115 q116 q117 q118 q119 q120 q121 q122 q123 q124 q125 q126 q127 q128 q129 q130 q131 q132 q133 q134 q135 q136 q137 q138 q139 q140 q141 q142 q143 q144 q145 q146 q147 q148 q149 q150 q151 q152 q153 q154 q155 q156 q157 q158 q159 q160 q161 q162 q163 q164 q165 q166 q167 q168 q169 q170 q171 q172 q173 q174 q175 q176 q177 q178 q179 q180 q181 q182 q183 q184 ok a' n' c' w' h1 h2 h3
                  refine ⟨?_, ?_⟩
                  · (repeat apply Exists.intro)
                    refine ⟨HN.out ok a' n' c' w' h1 h2 h3, rfl⟩
                  · simp [intOf]; omega
                · rw [List.concat_eq_append] at hy
                  by_cases hc1 : cc = 33
                  · subst hc1
                    refine rd_field_g2 hFl hown hT hw hat hnw hj2 hxl hpp hwa hy _ _ _ _ _ _ _ _ _ _ _ _ _ _ _ _ _ _ _ _ _ _ _ _ _ _ _ _ _ _ _ _ _ _ _ _ _ _ _ _ _ _ _ _ _ _ _ _ _ _ _ _ _ _ _ _ _ _ _ _ _ _ _ _ _ _ _ _ _ _ _ _ _ _ _ _ _ _ _ _ _ _ _ _ _ _ _ _ _ _ _ _ _ _ _ _ _ _ _ _ _ _ _ _ _ _ _ _ _ _ _ _ _ _ _ _ _ _ _ _ _ _ _ _ _ _ _ _ _ _ _ _ _ _ _ _ _ _ _ _ _ _ _ _ _ _ _ _ _ _ _ _ _ _ _ _ _ _ _ _ _ _ _ _ _ _ _ _ _ _ _ _ _ _ _ _ _ _ _ _ _ _ _ _ _ _ _ _ _ _ _ _ _ _ _ _ _ _ _ _ _ _ _ _ _ _ _ _ _ _ _ _ _ _ _ _ _ _ _ _ _ _ _ _ _ _ _ _ _ _ _ _ _ _ _ _ _ _ _ _ _ _ _ _ _ _ _ _ _ _ _ _ _ _ _ _ _ _ _ _ _ _ _ _ _ _ _ _ _ _ _ _ _ _ _ _ ?_
                    unfold FlKeep
                    intro q16 q17 q18 q19 q101 q102 q103 q104 q105 q106 q107 q108 q109 q110 q111 q112 q113 q114 q115 q116 q117 q118 q119 q120 q121 q122 q123 q124 q125 q126 q127 q128 q129 q130 q131 q132 q133 q134 q135 q136 q137 q138 q139 q140 q141 q142 q143 q144 q145 q146 q147 q148 q149 q150 q151 q152 q153 q154 q155 q156 q157 q158 q159 q160 q161 q162 q163 q164 q165 q166 q167 q168 q169 q170 q171 q172 q173 q174 q175 q176 q177 q178 q179 q180 q181 q182 q183 q184 ok a' n' c' w' h1 h2 h3
                    refine ⟨?_, ?_⟩
                    · (repeat apply Exists.intro)
                      refine ⟨HN.out ok a' n' c' w' h1 h2 h3, rfl⟩
                    · simp [intOf]; omega
                  · by_cases hc2 : cc = 42
                    · subst hc2
                      refine rd_field_g3 hFl hown hT hw hat hnw hj2 hxl hpp hwa hy _ _ _ _ _ _ _ _ _ _ _ _ _ _ _ _ _ _ _ _ _ _ _ _ _ _ _ _ _ _ _ _ _ _ _ _ _ _ _ _ _ _ _ _ _ _ _ _ _ _ _ _ _ _ _ _ _ _ _ _ _ _ _ _ _ _ _ _ _ _ _ _ _ _ _ _ _ _ _ _ _ _ _ _ _ _ _ _ _ _ _ _ _ _ _ _ _ _ _ _ _ _ _ _ _ _ _ _ _ _ _ _ _ _ _ _ _ _ _ _ _ _ _ _ _ _ _ _ _ _ _ _ _ _ _ _ _ _ _ _ _ _ _ _ _ _ _ _ _ _ _ _ _ _ _ _ _ _ _ _ _ _ _ _ _ _ _ _ _ _ _ _ _ _ _ _ _ _ _ _ _ _ _ _ _ _ _ _ _ _ _ _ _ _ _ _ _ _ _ _ _ _ _ _ _ _ _ _ _ _ _ _ _ _ _ _ _ _ _ _ _ _ _ _ _ _ _ _ _ _ _ _ _ _ _ _ _ _ _ _ _ _ _ _ _ _ _ _ _ _ _ _ _ _ _ _ _ _ _ _ _ _ _ _ _ _ _ _ _ _ _ _ _ _ _ _ ?_
                      unfold FlKeep
                      intro q16 q17 q18 q19 q101 q102 q103 q104 q105 q106 q107 q108 q109 q110 q111 q112 q113 q114 q115 q116 q117 q118 q119 q120 q121 q122 q123 q124 q125 q126 q127 q128 q129 q130 q131 q132 q133 q134 q135 q136 q137 q138 q139 q140 q141 q142 q143 q144 q145 q146 q147 q148 q149 q150 q151 q152 q153 q154 q155 q156 q157 q158 q159 q160 q161 q162 q163 q164 q165 q166 q167 q168 q169 q170 q171 q172 q173 q174 q175 q176 q177 q178 q179 q180 q181 q182 q183 q184 ok a' n' c' w' h1 h2 h3
                      refine ⟨?_, ?_⟩
                      · (repeat apply Exists.intro)
                        refine ⟨HN.out ok a' n' c' w' h1 h2 h3, rfl⟩
                      · simp [intOf]; omega
                    · refine rd_field_g4 hFl hown hT hw hat hnw hj2 hxl hpp hwa hy hc1 hc2 _ _ _ _ _ _ _ _ _ _ _ _ _ _ _ _ _ _ _ _ _ _ _ _ _ _ _ _ _ _ _ _ _ _ _ _ _ _ _ _ _ _ _ _ _ _ _ _ _ _ _ _ _ _ _ _ _ _ _ _ _ _ _ _ _ _ _ _ _ _ _ _ _ _ _ _ _ _ _ _ _ _ _ _ _ _ _ _ _ _ _ _ _ _ _ _ _ _ _ _ _ _ _ _ _ _ _ _ _ _ _ _ _ _ _ _ _ _ _ _ _ _ _ _ _ _ _ _ _ _ _ _ _ _ _ _ _ _ _ _ _ _ _ _ _ _ _ _ _ _ _ _ _ _ _ _ _ _ _ _ _ _ _ _ _ _ _ _ _ _ _ _ _ _ _ _ _ _ _ _ _ _ _ _ _ _ _ _ _ _ _ _ _ _ _ _ _ _ _ _ _ _ _ _ _ _ _ _ _ _ _ _ _ _ _ _ _ _ _ _ _ _ _ _ _ _ _ _ _ _ _ _ _ _ _ _ _ _ _ _ _ _ _ _ _ _ _ _ _ _ _ _ _ _ _ _ _ _ _ _ _ _ _ _ _ _ _ _ _ _ _ _ _ _ _ _ ?_
                      unfold FlKeep
                      intro q16 q17 q18 q19 q101 q102 q103 q104 q105 q106 q107 q108 q109 q110 q111 q112 q113 q114 q115 q116 q117 q118 q119 q120 q121 q122 q123 q124 q125 q126 q127 q128 q129 q130 q131 q132 q133 q134 q135 q136 q137 q138 q139 q140 q141 q142 q143 q144 q145 q146 q147 q148 q149 q150 q151 q152 q153 q154 q155 q156 q157 q158 q159 q160 q161 q162 q163 q164 q165 q166 q167 q168 q169 q170 q171 q172 q173 q174 q175 q176 q177 q178 q179 q180 q181 q182 q183 q184 ok a' n' c' w' h1 h2 h3
                      refine ⟨?_, ?_⟩
                      · (repeat apply Exists.intro)
                        refine ⟨HN.out ok a' n' c' w' h1 h2 h3, rfl⟩
                      · simp [intOf]; omega
            · refine rd_field_no1 hFl hown hT hw hat hnw hj2 hxl h2 _ _ _ _ _ _ _ _ _ _ _ _ _ _ _ _ _ _ _ _ _ _ _ _ _ _ _ _ _ _ _ _ _ _ _ _ _ _ _ _ _ _ _ _ _ _ _ _ _ _ _ _ _ _ _ _ _ _ _ _ _ _ _ _ _ _ _ _ _ _ _ _ _ _ _ _ _ _ _ _ _ _ _ _ _ _ _ _ _ _ _ _ _ _ _ _ _ _ _ _ _ _ _ _ _ _ _ _ _ _ _ _ _ _ _ _ _ _ _ _ _ _ _ _ _ _ _ _ _ _ _ _ _ _ _ _ _ _ _ _ _ _ _ _ _ _ _ _ _ _ _ _ _ _ _ _ _ _ _ _ _ _ _ _ _ _ _ _ _ _ _ _ _ _ _ _ _ _ _ _ _ _ _ _ _ _ _ _ _ _ _ _ _ _ _ _ _ _ _ _ _ _ _ _ _ _ _ _ _ _ _ _ _ _ _ _ _ _ _ _ _ _ _ _ _ _ _ _ _ _ _ _ _ _ _ _ _ _ _ _ _ _ _ _ _ _ _ _ _ _ _ _ _ _ _ _ _ _ _ _ _ _ _ _ _ _ _ _ _ _ _ _ _ _ _ _ ?_
              unfold FlOut
              intro q16 q17 q18 q19 q101 q102 q103 q104 q105 q106 q107 q108 q109 q110 q111 q112 q113 q114 q115 q116 q117 q118 q119 q120 q121 q122 q123 q124 q125 q126 q127 q128 q129 q130 q131 q132 q133 q134 q135 q136 q137 q138 q139 q140 q141 q142 q143 q144 q145 q146 q147 q148 q149 q150 q151 q152 q153 q154 q155 q156 q157 q158 q159 q160 q161 q162 q163 q164 q165 q166 q167 q168 q169 q170 q171 q172 q173 q174 q175 q176 q177 q178 q179 q180 q181 q182 q183 q184 w' hFl' hno
              obtain ⟨a, c, e⟩ : ∃ a' c', Value.slice a j c = .slice a' j c' := ⟨_, _, rfl⟩
              injection e with e1 _ e2
              subst e1 e2
              have hb := Lib.hid (HNo.out hno)
              obtain ⟨n, hn⟩ : ∃ n, n = j := ⟨_, rfl⟩
              rw [← hn] at hFl' 
              clear hno hFl hown hn hat hnw hj2 hxl hw hT h2
              (try clear hpp hwa)
              have hRe := HW1.out.1.below HY.out.2.2 (by have := (hFl').bl; exact this)
              have g2e := hRe.r2
              rw [← HY.out.2.1] at g2e
              have gke := cellB (i := 0) g2e rfl
              have kc0 := cellB (i := 0) (hFl').kbl rfl
              have kc1 := cellB (i := 1) (hFl').kbl rfl
              have kc2 := cellB (i := 2) (hFl').kbl rfl
              have hkn : ¬ W1.heap.size = w'.heap.size := by have := (Array.getElem?_eq_some_iff.1 (hFl').kbl).1; omega
              have hbn : ¬ b2 = w'.heap.size := by have := (Array.getElem?_eq_some_iff.1 g2e).1; omega
              have HO := Lib.hid (And.intro (hRe.below HY.out.2.2 (b_alloc (Below.refl _ w') (Nat.le_refl _) (.cells #[.string (bs x1), (.slice none 0 0), .slice a n c] 55))).ok (hRe.below HY.out.2.2 (b_alloc (Below.refl _ w') (Nat.le_refl _) (.cells #[.string (bs x1), (.slice none 0 0), .slice a n c] 55))).sz)
              have HRE := Lib.hid (And.intro hRe (hFl'))
              clear hRe g2e
              go_wp2_with (first | (at_builtin; refine wpList_append_own _ rfl (.tmp 186) (.tmp 188) 22 rfl (s0 + 3) 55 i0 _ 3 64 Tryz.underlying22 hi0 hz0 hz1 hz2 rfl (by decide) (.slice ak L.length ck) L.length (cellsK L) rfl HO.out.1 ⟨w'.heap.size, 0, none⟩ 1 1 [.string (bs x1), (.slice none 0 0), .slice a n c] rfl rfl (new_at _ _ _) (by simp [Value.oneCell']) HM.out.1 HM.out.2 HO.out.2 ?_; intro v1 w1 hown1 hgrow1 _; obtain ⟨⟨g0', g1'⟩, hr0, hbl⟩ := rd_addK (v1 := v1) HRE.out.1 HY.out.2.2 HY.out.2.1 hgrow1; have HF2 := Lib.hid (And.intro hown1 hgrow1); obtain ⟨a1, c1, rfl⟩ := own_slice hown1; have e0 := cellB (i := 0) hr0 rfl; have e1 := cellB (i := 1) hr0 rfl; have e2 := frzB (i := 0) hr0; have e3 := frzB (i := 1) hr0; have Hr0 := Lib.hid (And.intro hr0 hbl); clear hr0 hbl hown1 hgrow1))
              exact hret.out (HBad.out hb.out) _ _ rfl rfl rfl rfl (ret_set Hr0.out.1 Hr0.out.2).1 (ret_set Hr0.out.1 Hr0.out.2).2
          · obtain rfl : j = (r).length := by omega
            rw [List.take_length] at hfs
            have hltI : ¬ ((2 + (r).length : Nat) : Int) < ((r.length : Int) + 1 + 1) := by omega
            simp only [Int.natCast_add, Int.cast_ofNat_Int] at hltI ⊢
            have hRe := HW1.out.1.below HY.out.2.2 (by have := (hFl).bl; exact this)
            have g2e := hRe.r2
            rw [← HY.out.2.1] at g2e
            have gke := cellB (i := 0) g2e rfl
            have kc0 := cellB (i := 0) (hFl).kbl rfl
            have kc1 := cellB (i := 1) (hFl).kbl rfl
            have kc2 := cellB (i := 2) (hFl).kbl rfl
            have hkn : ¬ W1.heap.size = wr.heap.size := by have := (Array.getElem?_eq_some_iff.1 (hFl).kbl).1; omega
            have hbn : ¬ b2 = wr.heap.size := by have := (Array.getElem?_eq_some_iff.1 g2e).1; omega
            have HO := Lib.hid (And.intro (hRe.below HY.out.2.2 (b_alloc (Below.refl _ wr) (Nat.le_refl _) (.cells #[.string (bs x1), (.slice none 0 0), .slice a (r).length c] 55))).ok (hRe.below HY.out.2.2 (b_alloc (Below.refl _ wr) (Nat.le_refl _) (.cells #[.string (bs x1), (.slice none 0 0), .slice a (r).length c] 55))).sz)
            have HRE := Lib.hid (And.intro hRe (hFl))
            clear hRe g2e
            go_wp2_with (first | (at_builtin; refine wpList_append_own _ rfl (.tmp 186) (.tmp 188) 22 rfl (s0 + 3) 55 i0 _ 3 64 Tryz.underlying22 hi0 hz0 hz1 hz2 rfl (by decide) (.slice ak L.length ck) L.length (cellsK L) rfl HO.out.1 ⟨wr.heap.size, 0, none⟩ 1 1 [.string (bs x1), (.slice none 0 0), .slice a (r).length c] rfl rfl (new_at _ _ _) (by simp [Value.oneCell']) HM.out.1 HM.out.2 HO.out.2 ?_; intro v1 w1 hown1 hgrow1 _; obtain ⟨⟨g0', g1'⟩, hr0, hbl⟩ := rd_addK (v1 := v1) HRE.out.1 HY.out.2.2 HY.out.2.1 hgrow1; have HF2 := Lib.hid (And.intro hown1 hgrow1); obtain ⟨a1, c1, rfl⟩ := own_slice hown1; have e0 := cellB (i := 0) hr0 rfl; have e1 := cellB (i := 1) hr0 rfl; have e2 := frzB (i := 0) hr0; have e3 := frzB (i := 1) hr0; have Hr0 := Lib.hid (And.intro hr0 hbl); clear hr0 hbl hown1 hgrow1))
            obtain ⟨L', q1, q2, q3⟩ := HGood.out wr _ _ _ HRE.out.1 HRE.out.2 fs hfs hown hall _ _ HF2.out.1 HF2.out.2
            exact hK _ _ _ _ _ _ _ _ _ _ _ _ _ _ _ _ _ _ _ _ _ _ _ _ _ _ _ _ _ _ _ _ _ _ _ _ _ _ _ _ _ _ _ _ _ _ _ _ _ _ _ _ _ _ _ _ _ _ _ _ _ _ _ _ _ _ _ _ _ _ _ _ _ _ _ _ _ _ _ _ _ _ _ _ _ _ _ _ _ _ _ _ _ _ _ _ _ _ _ _ _ _ _ _ _ _ _ _ _ _ _ _ _ _ _ _ _ _ _ _ _ _ _ _ _ _ _ _ _ _ _ _ _ _ _ _ _ _ _ _ _ _ _ _ _ _ _ _ _ _ _ _ _ _ _ _ _ _ _ _ _ _ _ _ _ _ _ _ _ _ _ _ _ _ _ _ _ _ _ _ _ _ _ _ _ _ _ _ _ _ _ _ _ _ _ _ _ _ _ _ _ _ _ _ _ _ _ _ _ _ _ _ _ _ _ _ _ _ _ _ _ _ _ _ _ _ _ _ _ _ _ _ _ _ _ _ _ _ _ _ _ _ _ _ _ _ _ _ _ _ _ _ _ _ _ _ _ q1 q2 q3 hBl.out
end Go.Proofs.YtgjlonilbhlneaaGreatDoor
