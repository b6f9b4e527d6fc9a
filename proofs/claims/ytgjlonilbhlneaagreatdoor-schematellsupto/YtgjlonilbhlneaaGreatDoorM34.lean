/-
  A round of kinref1.ReadSchema over the words of fields: a word that may be one.
-/
import Derived.Test.YtgjlonilbhlneaaGreatDoorM33
import Derived.Deep.DeepCutAuto
namespace Go.Proofs.YtgjlonilbhlneaaGreatDoor
open Go.RowKit
set_option linter.unusedVariables false
set_option linter.unusedSimpArgs false

theorem tyO_03 (l : Nm) : 0 ≤ tyO l ∧ tyO l ≤ 3 := by
  unfold tyO
  split
  · decide
  · split
    · decide
    · split <;> decide
theorem tyO_is1 {l : Nm} (h : tyO l = 1) : l = [105, 110, 116] := by
  unfold tyO at h
  split at h
  · assumption
  · split at h
    · cases h
    · split at h <;> cases h
theorem tyO_is2 {l : Nm} (h : tyO l = 2) : l = [98, 111, 111, 108] := by
  unfold tyO at h
  split at h
  · cases h
  · split at h
    · assumption
    · split at h <;> cases h
theorem tyO_is3 {l : Nm} (h : tyO l = 3) : l = [116, 101, 120, 116] := by
  unfold tyO at h
  split at h
  · cases h
  · split at h
    · cases h
    · split at h
      · assumption
      · cases h
def tyAt (T : Int) (i : Nat) : Int := if T < i then T else 0
theorem tyAt_1 {T : Int} (h : 0 ≤ T ∧ T ≤ 3) : tyAt T 1 = 0 := by unfold tyAt; split <;> omega
theorem tyAt_4 {T : Int} (h : 0 ≤ T ∧ T ≤ 3) : tyAt T 4 = T := by unfold tyAt; split <;> omega
def FlF (W5 : World) (a : Nm) (T : Int) (mu ky : Bool) (i : Nat) (wq : World) : Prop := wq.heap[W5.heap.size]? = some (.cells #[.string (bs a), .int .i64 (tyAt T i), .bool mu, .bool ky] 52 (0, 0)) ∧ Below W5.heap.size W5 wq ∧ wq.heap.size = W5.heap.size + 1
theorem FlF.hit {W5 : World} {a : Nm} {T : Int} {mu ky : Bool} {i : Nat} {wq : World} (h : FlF W5 a T mu ky i wq) (hT : T = i) : FlF W5 a T mu ky (i + 1) (wq.setCell ⟨W5.heap.size, 1, none⟩ (.int .i64 i)) := by
  refine ⟨(heap_setCell_same wq W5.heap.size 1 _ 52 _ h.1).trans ?_, h.2.1.setCell (p := ⟨W5.heap.size, 1, none⟩) (Nat.le_refl _) _, by rw [World.size_setCell]; exact h.2.2⟩
  have : tyAt T (i + 1) = i := by unfold tyAt; split <;> omega
  rw [this]
  rfl
theorem FlF.miss {W5 : World} {a : Nm} {T : Int} {mu ky : Bool} {i : Nat} {wq : World} (h : FlF W5 a T mu ky i wq) (hT : ¬ T = i) : FlF W5 a T mu ky (i + 1) wq := by
  have : tyAt T (i + 1) = tyAt T i := by unfold tyAt; split <;> split <;> omega
  refine ⟨?_, h.2⟩
  rw [this]
  exact h.1
set_option maxHeartbeats 8000000 in
set_option maxRecDepth 1000000 in
theorem rd_field_g1 {W1 W2 wr : World} {kb b1 bw ow nw cw at' : Nat} {x1 x : Nm} {vo : Value} {av : Option Addr} {j cv : Nat} {cs : List Value} (hF : FlS W1 W2 kb x1 vo (.slice av j cv) wr) (ho : wr.ownsRow W2.heap.size 52 4 (.slice av j cv) j cs) (hT : wr.heap[b1]? = some (.cells #[.string ⟨#[]⟩, .string ⟨#[105, 110, 116]⟩, .string ⟨#[98, 111, 111, 108]⟩, .string ⟨#[116, 101, 120, 116]⟩] 9 (0, 0))) (hw : wr.cell? ⟨bw, ow + at', none⟩ = some (.string (bs x))) (hat : (at' : Int) < (nw : Int)) (hnw : (nw : Int) ≤ 10000002) (hj : j ≤ 10000002) (hxl : x.length ≤ 10000000) {a y : Nm} (hp : pcs 58 x = [a, y]) (hwa : wrd a = true) (hy : y = []) {K : Act → World → Prop} {Q : Exit → Act → World → Prop} (u0 u1 u2 u3 u4 u6 u7 u8 u9 u14 u15 u16 u17 u18 u19 u20 u21 u22 u23 u24 u25 u26 u27 u28 u29 u30 u31 u32 u33 u34 u35 u36 u37 u38 u39 u40 u41 u42 u43 u44 u45 u46 u47 u48 u49 u50 u51 u52 u53 u54 u55 u56 u57 u58 u59 u60 u61 u62 u63 u64 u65 u66 u67 u68 u69 u70 u71 u72 u73 u74 u75 u76 u77 u78 u79 u80 u81 u82 u83 u84 u85 u86 u87 u88 u89 u90 u91 u92 u93 u94 u95 u96 u97 u98 u99 u100 u101 u102 u103 u104 u105 u106 u107 u108 u109 u110 u111 u112 u113 u114 u115 u116 u117 u118 u119 u120 u121 u122 u123 u124 u125 u126 u127 u128 u129 u130 u131 u132 u133 u134 u135 u136 u137 u138 u139 u140 u141 u142 u143 u144 u145 u146 u147 u148 u149 u150 u151 u152 u153 u154 u155 u156 u157 u158 u159 u160 u161 u162 u163 u164 u165 u166 u167 u168 u169 u170 u171 u172 u173 u174 u175 u176 u177 u178 u179 u180 u181 u182 u183 u184 u185 u186 u187 u188 u189 u190 u191 u192 u193 u194 u195 u196 u197 u198 u199 u200 u201 u202 u203 u204 u205 u206 u207 u208 u209 u210 u211 u212 u213 u214 u215 u216 u217 u218 u219 u220 u221 u222 u223 u224 u225 u226 u227 u228 u229 u230 u231 u232 u233 u234 u235 u236 u237 u238 u239 u240 u241 u242 u243 u244 u245 u246 u247 u248 u249 u250 u251 u252 u253 u254 u255 u256 u257 u258 u259 u260 u261 u262 u263 u264 u265 u266 u267 u268 u269 u270 u271 u272 u273 u274 u275 u276 u277 u278 u279 u280 : Value) (hK : FlKeep W1 W2 kb b1 bw ow nw cw at' x1 x vo j cs K u0 u1 u2 u3 u4 u6 u7 u8 u9 u14 u15 u20 u21 u22 u23 u24 u25 u26 u27 u28 u29 u30 u31 u32 u33 u34 u35 u36 u37 u38 u39 u40 u41 u42 u43 u44 u45 u46 u47 u48 u49 u50 u51 u52 u53 u54 u55 u56 u57 u58 u59 u60 u61 u62 u63 u64 u65 u66 u67 u68 u69 u70 u71 u72 u73 u74 u75 u76 u77 u78 u79 u80 u81 u82 u83 u84 u85 u86 u87 u88 u89 u90 u91 u92 u93 u94 u95 u96 u97 u98 u99 u100 u185 u186 u187 u188 u189 u190 u191 u192 u193 u194 u195 u196 u197 u198 u199 u200 u201 u202 u203 u204 u205 u206 u207 u208 u209 u210 u211 u212 u213 u214 u215 u216 u217 u218 u219 u220 u221 u222 u223 u224 u225 u226 u227 u228 u229 u230 u231 u232 u233 u234 u235 u236 u237 u238 u239 u240 u241 u242 u243 u244 u245 u246 u247 u248 u249 u250 u251 u252 u253 u254 u255 u256 u257 u258 u259 u260 u261 u262 u263 u264 u265 u266 u267 u268 u269 u270 u271 u272 u273 u274 u275 u276 u277 u278 u279 u280) :
    Code.wp Tryz.prog (rdL 2) (Exit.then K Q) ⟨#[u0, u1, u2, u3, u4, .slice (some ⟨b1, 0, none⟩) 4 4, u6, u7, u8, u9, .slice (some ⟨bw, ow, none⟩) nw cw, .bool true, .pointer (some ⟨kb, 0, none⟩), .int .i64 (at' : Int), u14, u15, u16, u17, u18, u19, u20, u21, u22, u23, u24, u25, u26, u27, u28, u29, u30, u31, u32, u33, u34, u35, u36, u37, u38, u39, u40, u41, u42, u43, u44, u45, u46, u47, u48, u49, u50, u51, u52, u53, u54, u55, u56, u57, u58, u59, u60, u61, u62, u63, u64, u65, u66, u67, u68, u69, u70, u71, u72, u73, u74, u75, u76, u77, u78, u79, u80, u81, u82, u83, u84, u85, u86, u87, u88, u89, u90, u91, u92, u93, u94, u95, u96, u97, u98, u99, u100, u101, u102, u103, u104, u105, u106, u107, u108, u109, u110, u111, u112, u113, u114, u115, u116, u117, u118, u119, u120, u121, u122, u123, u124, u125, u126, u127, u128, u129, u130, u131, u132, u133, u134, u135, u136, u137, u138, u139, u140, u141, u142, u143, u144, u145, u146, u147, u148, u149, u150, u151, u152, u153, u154, u155, u156, u157, u158, u159, u160, u161, u162, u163, u164, u165, u166, u167, u168, u169, u170, u171, u172, u173, u174, u175, u176, u177, u178, u179, u180, u181, u182, u183, u184, u185, u186, u187, u188, u189, u190, u191, u192, u193, u194, u195, u196, u197, u198, u199, u200, u201, u202, u203, u204, u205, u206, u207, u208, u209, u210, u211, u212, u213, u214, u215, u216, u217, u218, u219, u220, u221, u222, u223, u224, u225, u226, u227, u228, u229, u230, u231, u232, u233, u234, u235, u236, u237, u238, u239, u240, u241, u242, u243, u244, u245, u246, u247, u248, u249, u250, u251, u252, u253, u254, u255, u256, u257, u258, u259, u260, u261, u262, u263, u264, u265, u266, u267, u268, u269, u270, u271, u272, u273, u274, u275, u276, u277, u278, u279, u280], []⟩ wr := by
  obtain ⟨T, hTy⟩ : ∃ T, T = tyO y := ⟨_, rfl⟩
  have hT3 : 0 ≤ T ∧ T ≤ 3 := by rw [hTy]; exact tyO_03 _
  have HR : Hid (rFd x = if T = 0 then none else some ⟨a, T, false, false⟩) := by
    show _ = _
    unfold rFd
    rw [hp]
    simp only [hwa, true_and, show mkR y = (y, false, false) by rw [hy]; rfl, hTy]
    split <;> simp_all
  have HTy : Hid (T = tyO y) := hTy
  clear hTy
  have HF : Hid (FlS W1 W2 kb x1 vo (.slice av j cv) wr ∧ wr.ownsRow W2.heap.size 52 4 (.slice av j cv) j cs ∧ wr.heap[b1]? = some (.cells #[.string ⟨#[]⟩, .string ⟨#[105, 110, 116]⟩, .string ⟨#[98, 111, 111, 108]⟩, .string ⟨#[116, 101, 120, 116]⟩] 9 (0, 0))) := ⟨hF, ho, hT⟩
  have cW := fun W => rword_any a W (by have := pcs_le 58 x a (by rw [hp]; simp); unfold maxLen; omega)
  have hyl : y.length ≤ 10000000 := Nat.le_trans (pcs_le 58 x y (by rw [hp]; simp)) hxl
  rw [hwa] at cW
  have he1 : y.isEmpty = true := by rw [hy]; rfl
  have HYn := Lib.hid hy
  clear hy
  clear hF ho hT hwa
  have cC := fun W => rcut_any 58 x W hxl
  rw [show (((58 : UInt8).toNat : Nat) : Int) = 58 from rfl, cutR_eq, hp] at cC
  clear hp
  conv => arg 2; whnf
  go_wp2_with (first | (go_at_call 30; refine (cC _).mono ?_; rintro e W5 ⟨v, rfl, hv, hB5⟩; obtain ⟨ap, cp, rfl⟩ := own_slice hv; refine Hid.out ?_))
  refine Lib.hid ?_
  have hv' : ∃ b o, ap = some ⟨b, o, none⟩ ∧ b < W5.heap.size ∧ W5.cell? ⟨b, o, none⟩ = some (.string (bs a)) ∧ W5.cell? ⟨b, o + 1, none⟩ = some (.string (bs y)) := by
    rcases own_isS hv with ⟨ao, c, e, e2, _⟩ | ⟨b, o, c, e, h1, h2, h3, h4⟩
    · cases e2
    · injection e with e _ _; exact ⟨b, o, e, h3, h4 0 a rfl, h4 1 y rfl⟩
  obtain ⟨bp, op, rfl, hbp, p0, p1⟩ := hv'
  obtain ⟨W6, hW6⟩ : ∃ W6, W6 = W5.alloc (.cells #[.string (bs a), .int .i64 0, .bool false, .bool false] 52) := ⟨_, rfl⟩
  have HW6 := Lib.hid hW6
  have n6 : W6.heap[W5.heap.size]? = some (.cells #[.string (bs a), .int .i64 0, .bool false, .bool false] 52 (0, 0)) := by rw [hW6]; exact heap_alloc_new W5 _
  have hB6 : Below W5.heap.size W5 W6 := by rw [hW6]; exact b_alloc (Below.refl _ _) (Nat.le_refl _) _
  have hz6 : Hid (W6.heap.size = W5.heap.size + 1) := by rw [hW6]; simp [Hid]
  have q1 := (hB6.cell (p := ⟨bp, op + 1, none⟩) hbp).trans p1
  have i2 := cellB (i := 2) n6 rfl
  have i3 := cellB (i := 3) n6 rfl
  have j2 := frzB (i := 2) n6
  have j3 := frzB (i := 3) n6
  have H5 : Hid (Below wr.heap.size wr W5 ∧ Below W5.heap.size W5 W6 ∧ W6.heap[W5.heap.size]? = some (.cells #[.string (bs a), .int .i64 0, .bool false, .bool false] 52 (0, 0))) := ⟨hB5, hB6, n6⟩
  clear hv hB5 hbp hW6 hB6 n6 p1
  go_upto_region 28 with (first | (go_at_call 31; refine (cW _).mono ?_; rintro e w' ⟨rfl, hw⟩; have hw := hw.symm; subst hw))
  rw [← HW6.out]
  clear HW6 p0 cW
  go_upto_region 33 with fail
  obtain ⟨W7, hW7⟩ : ∃ W7, W7 = W6 := ⟨_, rfl⟩
  have n7 : W7.heap[W5.heap.size]? = some (.cells #[.string (bs a), .int .i64 0, .bool false, .bool false] 52 (0, 0)) := by rw [hW7]; exact H5.out.2.2
  have hB7 : Below W5.heap.size W5 W7 := by rw [hW7]; exact H5.out.2.1
  have hz7 : W7.heap.size = W5.heap.size + 1 := by rw [hW7]; simpa using hz6.out
  rw [← hW7]
  clear hW7
  have HI : Hid (FlF W5 a T false false 1 W7) := ⟨by rw [tyAt_1 hT3]; exact n7, hB7, hz7⟩
  clear n7 hB7 hz7 i2 i3 j2 j3 q1 hz6
  (try clear he1)
  obtain ⟨Wo, hWo⟩ : ∃ Wo, Wo = wr := ⟨_, rfl⟩
  subst hWo
  have HB1 : Hid (∀ W, Below W5.heap.size W5 W → W.heap[b1]? = some (.cells #[.string ⟨#[]⟩, .string ⟨#[105, 110, 116]⟩, .string ⟨#[98, 111, 111, 108]⟩, .string ⟨#[116, 101, 120, 116]⟩] 9 (0, 0))) := fun W h => (h.block b1 (Nat.lt_of_lt_of_le (Array.getElem?_eq_some_iff.1 HF.out.2.2).1 H5.out.1.size)).trans ((H5.out.1.block b1 (Array.getElem?_eq_some_iff.1 HF.out.2.2).1).trans HF.out.2.2)
  go_wp2
  go_loopw [19] (fun s19 wq => ∃ i : Nat, 1 ≤ i ∧ i ≤ 4 ∧ s19 = .int .i64 i ∧ FlF W5 a T false false i wq) (fun s19 _ => 4 - (intOf s19).toNat)
  case atStart => exact ⟨1, by omega, by omega, rfl, HI.out⟩
  case round =>
    obtain ⟨i, hi1, hi4, rfl, hq⟩ := hrel
    have HQ : Hid (FlF W5 a T false false i wr) := hq
    have t1 := cellB (i := 1) (HB1.out wr hq.2.1) rfl
    have t2 := cellB (i := 2) (HB1.out wr hq.2.1) rfl
    have t3 := cellB (i := 3) (HB1.out wr hq.2.1) rfl
    have e0 := cellB (i := 0) hq.1 rfl
    have e1 := cellB (i := 1) hq.1 rfl
    have e2 := cellB (i := 2) hq.1 rfl
    have e3 := cellB (i := 3) hq.1 rfl
    have ef := frzB (i := 1) hq.1
    clear hq
    have hcase : i = 1 ∨ i = 2 ∨ i = 3 ∨ i = 4 := by omega
    rcases hcase with rfl | rfl | rfl | rfl
    · by_cases hT1 : T = 1
      · have hx : ([105, 110, 116] == y) = true := by rw [tyO_is1 (HTy.out.symm.trans hT1)]; rfl
        have HN := Lib.hid (FlF.hit HQ.out hT1)
        clear HTy
        go_wp2
        go_roundw
        case rel => exact ⟨2, by omega, by omega, rfl, HN.out⟩
        case measure => simp [intOf]
      · have hx : ([105, 110, 116] == y) = false := ne_b (fun e => hT1 (by rw [HTy.out, ← e]; rfl))
        have hx2 : ¬ [105, 110, 116] = y := fun e => hT1 (by rw [HTy.out, ← e]; rfl)
        have HN := Lib.hid (FlF.miss HQ.out hT1)
        clear hT1
        go_wp2
        go_roundw
        case rel => exact ⟨2, by omega, by omega, rfl, HN.out⟩
        case measure => simp [intOf]
    · by_cases hT1 : T = 2
      · have hx : ([98, 111, 111, 108] == y) = true := by rw [tyO_is2 (HTy.out.symm.trans hT1)]; rfl
        have HN := Lib.hid (FlF.hit HQ.out hT1)
        clear HTy
        go_wp2
        go_roundw
        case rel => exact ⟨3, by omega, by omega, rfl, HN.out⟩
        case measure => simp [intOf]
      · have hx : ([98, 111, 111, 108] == y) = false := ne_b (fun e => hT1 (by rw [HTy.out, ← e]; rfl))
        have hx2 : ¬ [98, 111, 111, 108] = y := fun e => hT1 (by rw [HTy.out, ← e]; rfl)
        have HN := Lib.hid (FlF.miss HQ.out hT1)
        clear hT1
        go_wp2
        go_roundw
        case rel => exact ⟨3, by omega, by omega, rfl, HN.out⟩
        case measure => simp [intOf]
    · by_cases hT1 : T = 3
      · have hx : ([116, 101, 120, 116] == y) = true := by rw [tyO_is3 (HTy.out.symm.trans hT1)]; rfl
        have HN := Lib.hid (FlF.hit HQ.out hT1)
        clear HTy
        go_wp2
        go_roundw
        case rel => exact ⟨4, by omega, by omega, rfl, HN.out⟩
        case measure => simp [intOf]
      · have hx : ([116, 101, 120, 116] == y) = false := ne_b (fun e => hT1 (by rw [HTy.out, ← e]; rfl))
        have hx2 : ¬ [116, 101, 120, 116] = y := fun e => hT1 (by rw [HTy.out, ← e]; rfl)
        have HN := Lib.hid (FlF.miss HQ.out hT1)
        clear hT1
        go_wp2
        go_roundw
        case rel => exact ⟨4, by omega, by omega, rfl, HN.out⟩
        case measure => simp [intOf]
    · rw [tyAt_4 hT3] at e1
      have hbq : Hid (Below Wo.heap.size Wo wr) := on1 H5.out.1 HQ.out.2.1 (Nat.le_refl _)
      have hFq := HF.out.1.below hbq.out
      have k2 := cellB (i := 2) hFq.kbl rfl
      have hkn : ¬ kb = wr.heap.size := by have := (Array.getElem?_eq_some_iff.1 hFq.kbl).1; omega
      have hbA : Hid (Below Wo.heap.size Wo (wr.alloc (.cells #[.string (bs a), .int .i64 T, .bool false, .bool false] 52))) := on1 hbq.out (b_alloc (Below.refl _ _) (Nat.le_refl _) _) (Nat.le_refl _)
      have HO : Hid ((wr.alloc (.cells #[.string (bs a), .int .i64 T, .bool false, .bool false] 52)).ownsRow W2.heap.size 52 4 (.slice av j cv) j cs ∧ W2.heap.size ≤ (wr.alloc (.cells #[.string (bs a), .int .i64 T, .bool false, .bool false] 52)).heap.size) := ⟨own_bel HF.out.2.1 hbA.out, (HF.out.1.below hbA.out).sz⟩
      have HM : Hid (j + 1 ≤ maxLen ∧ (j + 1) * 32 ≤ 140737488355328) := by unfold maxLen; exact ⟨by omega, by omega⟩
      obtain ⟨i0, hi0, hz0, hz1, hz2⟩ := info_parts infoFd
      have HA : Hid (∀ w1 v1, (wr.alloc (.cells #[.string (bs a), .int .i64 T, .bool false, .bool false] 52)).grownBy w1 (Value.slice av j cv).ownBlock → w1.ownsRow W2.heap.size 52 4 v1 (j + 1) (cs ++ [.string (bs a), .int .i64 T, .bool false, .bool false]) → _) := fun w1 v1 hg hown => fl_step HF.out.1 HF.out.2.1 hbA.out hg hown
      clear hFq t1 t2 t3 HQ
      by_cases hT0 : T = 0
      · have hgt : ¬ (0 : Int) < T := by omega
        have hbad : Hid (rFd x = none) := by show _ = _; rw [HR.out, if_pos hT0]
        have hAnd := Lib.hid hT0
        clear hT0
        go_wp2_with (first | (at_builtin; refine wpList_append_own _ rfl (.tmp 180) (.tmp 182) 53 rfl W2.heap.size 52 i0 _ 4 32 Tryz.underlying53 hi0 hz0 hz1 hz2 rfl (by decide) (.slice av j cv) j cs rfl HO.out.1 ⟨wr.heap.size, 0, none⟩ 1 1 [.string (bs a), .int .i64 T, .bool false, .bool false] rfl rfl (new_at _ _ _) (by simp [Value.oneCell']) HM.out.1 HM.out.2 HO.out.2 ?_; intro v1 w1 hown1 hgrow1 _; obtain ⟨⟨g0, g1⟩, hfl, hro⟩ := HA.out w1 v1 hgrow1 hown1; obtain ⟨a1, c1, rfl⟩ := own_slice hown1; have Hfl := Lib.hid hfl; clear hfl hown1 hgrow1 hro))
        exact hK _ _ _ _ _ _ _ _ _ _ _ _ _ _ _ _ _ _ _ _ _ _ _ _ _ _ _ _ _ _ _ _ _ _ _ _ _ _ _ _ _ _ _ _ _ _ _ _ _ _ _ _ _ _ _ _ _ _ _ _ _ _ _ _ _ _ _ _ _ _ _ _ _ _ _ _ _ _ _ _ _ _ _ _ _ _ _ _ false _ _ _ _ Hfl.out (fun h => by cases h) (fun _ => hbad.out)
      · have hgt : (0 : Int) < T := by omega
        have hgood : Hid (rFd x = some ⟨a, T, false, false⟩) := by show _ = _; rw [HR.out, if_neg hT0]
        clear hT0
        go_wp2_with (first | (at_builtin; refine wpList_append_own _ rfl (.tmp 180) (.tmp 182) 53 rfl W2.heap.size 52 i0 _ 4 32 Tryz.underlying53 hi0 hz0 hz1 hz2 rfl (by decide) (.slice av j cv) j cs rfl HO.out.1 ⟨wr.heap.size, 0, none⟩ 1 1 [.string (bs a), .int .i64 T, .bool false, .bool false] rfl rfl (new_at _ _ _) (by simp [Value.oneCell']) HM.out.1 HM.out.2 HO.out.2 ?_; intro v1 w1 hown1 hgrow1 _; obtain ⟨⟨g0, g1⟩, hfl, hro⟩ := HA.out w1 v1 hgrow1 hown1; obtain ⟨a1, c1, rfl⟩ := own_slice hown1; have Hfl := Lib.hid (And.intro hfl hro); clear hfl hown1 hgrow1 hro))
        exact hK _ _ _ _ _ _ _ _ _ _ _ _ _ _ _ _ _ _ _ _ _ _ _ _ _ _ _ _ _ _ _ _ _ _ _ _ _ _ _ _ _ _ _ _ _ _ _ _ _ _ _ _ _ _ _ _ _ _ _ _ _ _ _ _ _ _ _ _ _ _ _ _ _ _ _ _ _ _ _ _ _ _ _ _ _ _ _ _ true _ _ _ _ Hfl.out.1 (fun _ => ⟨_, hgood.out, rfl, Hfl.out.2⟩) (fun h => by cases h)
end Go.Proofs.YtgjlonilbhlneaaGreatDoor
