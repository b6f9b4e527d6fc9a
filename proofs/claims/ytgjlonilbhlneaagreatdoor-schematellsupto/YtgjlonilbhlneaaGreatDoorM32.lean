/-
  A round of kinref1.ReadSchema: the line of a bond.
-/
import Derived.Test.YtgjlonilbhlneaaGreatDoorM31
import Derived.Deep.RegionHeld3
namespace Go.Proofs.YtgjlonilbhlneaaGreatDoor
open Go.RowKit
set_option linter.unusedVariables false
set_option linter.unusedSimpArgs false

def RdKeep (s0 b1 b2 : Nat) (w : World) (L : List Kd) (B : List Bd) (al : Option Addr) (nl cl : Nat) (ls : List Nm) (k : Nat) (last : Int) (Wd : List Nm) (K : Act → World → Prop) (u0 u1 u28 u29 u30 u31 u32 u33 u34 u267 u268 u269 u270 u271 u272 u273 u274 u275 u276 u277 u278 u279 u280 : Value) : Prop := ∀ (q3 q4 q10 q11 q12 q13 q14 q15 q16 q17 q18 q19 q20 q21 q22 q23 q24 q25 q26 q27 q35 q36 q37 q38 q39 q40 q41 q42 q43 q44 q45 q46 q47 q48 q49 q50 q51 q52 q53 q54 q55 q56 q57 q58 q59 q60 q61 q62 q63 q64 q65 q66 q67 q68 q69 q70 q71 q72 q73 q74 q75 q76 q77 q78 q79 q80 q81 q82 q83 q84 q85 q86 q87 q88 q89 q90 q91 q92 q93 q94 q95 q96 q97 q98 q99 q100 q101 q102 q103 q104 q105 q106 q107 q108 q109 q110 q111 q112 q113 q114 q115 q116 q117 q118 q119 q120 q121 q122 q123 q124 q125 q126 q127 q128 q129 q130 q131 q132 q133 q134 q135 q136 q137 q138 q139 q140 q141 q142 q143 q144 q145 q146 q147 q148 q149 q150 q151 q152 q153 q154 q155 q156 q157 q158 q159 q160 q161 q162 q163 q164 q165 q166 q167 q168 q169 q170 q171 q172 q173 q174 q175 q176 q177 q178 q179 q180 q181 q182 q183 q184 q185 q186 q187 q188 q189 q190 q191 q192 q193 q194 q195 q196 q197 q198 q199 q200 q201 q202 q203 q204 q205 q206 q207 q208 q209 q210 q211 q212 q213 q214 q215 q216 q217 q218 q219 q220 q221 q222 q223 q224 q225 q226 q227 q228 q229 q230 q231 q232 q233 q234 q235 q236 q237 q238 q239 q240 q241 q242 q243 q244 q245 q246 q247 q248 q249 q250 q251 q252 q253 q254 q255 q256 q257 q258 q259 q260 q261 q262 q263 q264 q265 q266 : Value) (L' : List Kd) (B' : List Bd) (vk' vb' : Value) (w' : World), RdS s0 w L' B' vk' vb' (.slice al nl cl) ls w' → rLine (L.map kq) B Wd = some (L'.map kq, B') → L'.length ≤ k + 1 → B'.length ≤ k + 1 → K ⟨#[u0, u1, .pointer (some ⟨s0, 0, none⟩), q3, q4, .slice (some ⟨b1, 0, none⟩) 4 4, .pointer (some ⟨b2, 0, none⟩), .slice al nl cl, .int .i64 last, .int .i64 ((k : Int) + 1), q10, q11, q12, q13, q14, q15, q16, q17, q18, q19, q20, q21, q22, q23, q24, q25, q26, q27, u28, u29, u30, u31, u32, u33, u34, q35, q36, q37, q38, q39, q40, q41, q42, q43, q44, q45, q46, q47, q48, q49, q50, q51, q52, q53, q54, q55, q56, q57, q58, q59, q60, q61, q62, q63, q64, q65, q66, q67, q68, q69, q70, q71, q72, q73, q74, q75, q76, q77, q78, q79, q80, q81, q82, q83, q84, q85, q86, q87, q88, q89, q90, q91, q92, q93, q94, q95, q96, q97, q98, q99, q100, q101, q102, q103, q104, q105, q106, q107, q108, q109, q110, q111, q112, q113, q114, q115, q116, q117, q118, q119, q120, q121, q122, q123, q124, q125, q126, q127, q128, q129, q130, q131, q132, q133, q134, q135, q136, q137, q138, q139, q140, q141, q142, q143, q144, q145, q146, q147, q148, q149, q150, q151, q152, q153, q154, q155, q156, q157, q158, q159, q160, q161, q162, q163, q164, q165, q166, q167, q168, q169, q170, q171, q172, q173, q174, q175, q176, q177, q178, q179, q180, q181, q182, q183, q184, q185, q186, q187, q188, q189, q190, q191, q192, q193, q194, q195, q196, q197, q198, q199, q200, q201, q202, q203, q204, q205, q206, q207, q208, q209, q210, q211, q212, q213, q214, q215, q216, q217, q218, q219, q220, q221, q222, q223, q224, q225, q226, q227, q228, q229, q230, q231, q232, q233, q234, q235, q236, q237, q238, q239, q240, q241, q242, q243, q244, q245, q246, q247, q248, q249, q250, q251, q252, q253, q254, q255, q256, q257, q258, q259, q260, q261, q262, q263, q264, q265, q266, u267, u268, u269, u270, u271, u272, u273, u274, u275, u276, u277, u278, u279, u280], []⟩ w'
theorem bd_line {P : List (Nm × List Nm × List Fd)} {B : List Bd} {x0 a b c n m : Nm} (h1 : (x0 == [107, 105, 110, 100]) = false) (h2 : (x0 == [98, 111, 110, 100]) = true) : rLine P B [x0, a, b, c, n, m] = if (wrd a && wrd b && wrd c && (numB n).2 && ((m == [97, 110, 121]) || (numB m).2)) = true then some (P, B ++ [⟨a, b, c, (numB n).1, if (m == [97, 110, 121]) = true then -1 else (numB m).1⟩]) else none := by
  have hk : rKd [x0, a, b, c, n, m] B = none := by
    unfold rKd
    rw [kdOf_no h1]
  unfold rLine
  rw [hk]
  have hb : rBd [x0, a, b, c, n, m] = if ((x0 == wBond) && wrd a && wrd b && wrd c && (numB n).2 && ((m == wAny) || (numB m).2)) = true then some ⟨a, b, c, (numB n).1, if (m == wAny) = true then -1 else (numB m).1⟩ else none := rfl
  rw [hb, show (x0 == wBond) = true from h2, Bool.true_and]
  show (match (if (wrd a && wrd b && wrd c && (numB n).2 && ((m == [97, 110, 121]) || (numB m).2)) = true then some _ else none) with | some x => some (P, B ++ [x]) | none => none) = _
  split <;> rename_i h <;> split at h <;> simp_all
  exact h.symm
set_option maxHeartbeats 8000000 in
set_option maxRecDepth 1000000 in
theorem rd_bond {s0 b1 b2 : Nat} {w wr : World} {L : List Kd} {B : List Bd} {vk vb : Value} {al : Option Addr} {nl cl : Nat} {ls : List Nm} {k : Nat} {last : Int} (hS : RdS s0 w L B vk vb (.slice al nl cl) ls wr) (hs : s0 ≤ w.heap.size) (hb1 : b1 = s0 + 1) (hb2 : b2 = s0 + 2) {y : Nm} (hy : ls[k]? = some y) (hyl : y.length ≤ 10000000) (hnl : nl = ls.length) (hlm : ls.length ≤ 10000001) (hk : (k : Int) < last) (hLn : L.length ≤ k) (hBn : B.length ≤ k) {x0 : Nm} {xs : List Nm} (hW : pcs 32 y = x0 :: xs) {a b c n m : Nm} (hp1 : (x0 == [107, 105, 110, 100]) = false) (hp2 : (x0 == [98, 111, 110, 100]) = true) (hp3 : xs = [a, b, c, n, m])
    {K : Act → World → Prop} {Q : Exit → Act → World → Prop} (u0 u1 u3 u4 u10 u11 u12 u13 u14 u15 u16 u17 u18 u19 u20 u21 u22 u23 u24 u25 u26 u27 u28 u29 u30 u31 u32 u33 u34 u35 u36 u37 u38 u39 u40 u41 u42 u43 u44 u45 u46 u47 u48 u49 u50 u51 u52 u53 u54 u55 u56 u57 u58 u59 u60 u61 u62 u63 u64 u65 u66 u67 u68 u69 u70 u71 u72 u73 u74 u75 u76 u77 u78 u79 u80 u81 u82 u83 u84 u85 u86 u87 u88 u89 u90 u91 u92 u93 u94 u95 u96 u97 u98 u99 u100 u101 u102 u103 u104 u105 u106 u107 u108 u109 u110 u111 u112 u113 u114 u115 u116 u117 u118 u119 u120 u121 u122 u123 u124 u125 u126 u127 u128 u129 u130 u131 u132 u133 u134 u135 u136 u137 u138 u139 u140 u141 u142 u143 u144 u145 u146 u147 u148 u149 u150 u151 u152 u153 u154 u155 u156 u157 u158 u159 u160 u161 u162 u163 u164 u165 u166 u167 u168 u169 u170 u171 u172 u173 u174 u175 u176 u177 u178 u179 u180 u181 u182 u183 u184 u185 u186 u187 u188 u189 u190 u191 u192 u193 u194 u195 u196 u197 u198 u199 u200 u201 u202 u203 u204 u205 u206 u207 u208 u209 u210 u211 u212 u213 u214 u215 u216 u217 u218 u219 u220 u221 u222 u223 u224 u225 u226 u227 u228 u229 u230 u231 u232 u233 u234 u235 u236 u237 u238 u239 u240 u241 u242 u243 u244 u245 u246 u247 u248 u249 u250 u251 u252 u253 u254 u255 u256 u257 u258 u259 u260 u261 u262 u263 u264 u265 u266 u267 u268 u269 u270 u271 u272 u273 u274 u275 u276 u277 u278 u279 u280 : Value) (hret : Hid (rLine (L.map kq) B (x0 :: xs) = none → RdRet s0 w (k : Int) Q)) (hK : RdKeep s0 b1 b2 w L B al nl cl ls k last (x0 :: xs) K u0 u1 u28 u29 u30 u31 u32 u33 u34 u267 u268 u269 u270 u271 u272 u273 u274 u275 u276 u277 u278 u279 u280) :
    Code.wp Tryz.prog (rdL 0) (Exit.then K Q) ⟨#[u0, u1, .pointer (some ⟨s0, 0, none⟩), u3, u4, .slice (some ⟨b1, 0, none⟩) 4 4, .pointer (some ⟨b2, 0, none⟩), .slice al nl cl, .int .i64 last, .int .i64 (k : Int), u10, u11, u12, u13, u14, u15, u16, u17, u18, u19, u20, u21, u22, u23, u24, u25, u26, u27, u28, u29, u30, u31, u32, u33, u34, u35, u36, u37, u38, u39, u40, u41, u42, u43, u44, u45, u46, u47, u48, u49, u50, u51, u52, u53, u54, u55, u56, u57, u58, u59, u60, u61, u62, u63, u64, u65, u66, u67, u68, u69, u70, u71, u72, u73, u74, u75, u76, u77, u78, u79, u80, u81, u82, u83, u84, u85, u86, u87, u88, u89, u90, u91, u92, u93, u94, u95, u96, u97, u98, u99, u100, u101, u102, u103, u104, u105, u106, u107, u108, u109, u110, u111, u112, u113, u114, u115, u116, u117, u118, u119, u120, u121, u122, u123, u124, u125, u126, u127, u128, u129, u130, u131, u132, u133, u134, u135, u136, u137, u138, u139, u140, u141, u142, u143, u144, u145, u146, u147, u148, u149, u150, u151, u152, u153, u154, u155, u156, u157, u158, u159, u160, u161, u162, u163, u164, u165, u166, u167, u168, u169, u170, u171, u172, u173, u174, u175, u176, u177, u178, u179, u180, u181, u182, u183, u184, u185, u186, u187, u188, u189, u190, u191, u192, u193, u194, u195, u196, u197, u198, u199, u200, u201, u202, u203, u204, u205, u206, u207, u208, u209, u210, u211, u212, u213, u214, u215, u216, u217, u218, u219, u220, u221, u222, u223, u224, u225, u226, u227, u228, u229, u230, u231, u232, u233, u234, u235, u236, u237, u238, u239, u240, u241, u242, u243, u244, u245, u246, u247, u248, u249, u250, u251, u252, u253, u254, u255, u256, u257, u258, u259, u260, u261, u262, u263, u264, u265, u266, u267, u268, u269, u270, u271, u272, u273, u274, u275, u276, u277, u278, u279, u280], []⟩ wr := by
  have HP3 := Lib.hid hp3
  clear hp3
  obtain ⟨ab, cb, evb⟩ := own_slice hS.ob
  obtain ⟨ak, ck, evk⟩ := own_slice hS.ok
  subst evb evk
  have hb : ∃ b o c, Value.slice al nl cl = .slice (some ⟨b, o, none⟩) nl c ∧ b < wr.heap.size ∧ wr.cell? ⟨b, o + k, none⟩ = some (.string (bs y)) := by
    rcases own_isS hS.ol with ⟨ao, c, e, e2, _⟩ | ⟨b, o, c, e, h1, h2, h3, h4⟩
    · rw [e2] at hy; cases hy
    · rw [hnl]; rw [hnl] at e; exact ⟨b, o, c, e, h3, h4 k y hy⟩
  obtain ⟨bl, ol, cl', e1, hbl, cy⟩ := hb
  injection e1 with e1 _ e2
  subst e1 e2
  have hki : (k : Int) < (nl : Int) := by have := (List.getElem?_eq_some_iff.1 hy).1; omega
  have cC := fun W => rcut_any 32 y W hyl
  rw [show (((32 : UInt8).toNat : Nat) : Int) = 32 from rfl, cutR_eq, hW] at cC
  have HS : Hid (RdS s0 w L B (.slice ak L.length ck) (.slice ab B.length cb) (.slice (some ⟨bl, ol, none⟩) nl cl) ls wr) := hS
  have hkn : (k : Int) ≤ 10000001 := by have := (List.getElem?_eq_some_iff.1 hy).1; omega
  have HX : Hid (xs.length ≤ 10000000 ∧ ∀ x ∈ x0 :: xs, x.length ≤ 10000000) := by
    have := pcs_many 32 y
    rw [hW] at this
    simp at this
    exact ⟨by omega, fun x hx => Nat.le_trans (pcs_le 32 y x (by rw [hW]; exact hx)) hyl⟩
  have HY : Hid (b1 = s0 + 1 ∧ b2 = s0 + 2 ∧ s0 ≤ w.heap.size) := ⟨hb1, hb2, hs⟩
  have HLB : Hid (L.length ≤ k ∧ B.length ≤ k ∧ k ≤ 10000001) := ⟨hLn, hBn, by omega⟩
  clear hS hy hyl hlm hW hnl hb1 hb2 hs hLn hBn
  conv => arg 2; whnf
  go_wp2_with (first | (go_at_call 30; refine (cC _).mono ?_; rintro e W1 ⟨v, rfl, hv, hB1⟩; obtain ⟨av, cv, rfl⟩ := own_slice hv; refine Hid.out ?_))
  refine Lib.hid ?_
  have hv' : ∃ b o, av = some ⟨b, o, none⟩ ∧ b < W1.heap.size ∧ LiesS W1 b o (x0 :: xs) := by
    rcases own_isS hv with ⟨ao, c, e, e2, _⟩ | ⟨b, o, c, e, h1, h2, h3, h4⟩
    · cases e2
    · injection e with e _ _; exact ⟨b, o, e, h3, h4⟩
  obtain ⟨bw, ow, rfl, hbw, hWL⟩ := hv'
  have HW1 : Hid (RdS s0 w L B (.slice ak L.length ck) (.slice ab B.length cb) (.slice (some ⟨bl, ol, none⟩) nl cl) ls W1 ∧ LiesS W1 bw ow (x0 :: xs) ∧ bw < W1.heap.size) := ⟨HS.out.below HY.out.2.2 hB1, hWL, hbw⟩
  have w0 : W1.cell? ⟨bw, ow, none⟩ = some (.string (bs x0)) := hWL 0 x0 rfl
  have g2 := HW1.out.1.r2
  rw [← HY.out.2.1] at g2
  have gk := cellB (i := 0) g2 rfl
  have gb := cellB (i := 1) g2 rfl
  have g0 := cellB (i := 0) HW1.out.1.r0 rfl
  have g1 := cellB (i := 1) HW1.out.1.r0 rfl
  have f0 := frzB (i := 0) HW1.out.1.r0
  have f1 := frzB (i := 1) HW1.out.1.r0
  clear hv hWL hbw g2 hbl cy hB1 cC
  have hp3 := HP3.out
  clear HP3
  subst hp3
  have wc1 : W1.cell? ⟨bw, ow + 1, none⟩ = some (.string (bs a)) := HW1.out.2.1 1 a rfl
  have wc2 : W1.cell? ⟨bw, ow + 2, none⟩ = some (.string (bs b)) := HW1.out.2.1 2 b rfl
  have wc3 : W1.cell? ⟨bw, ow + 3, none⟩ = some (.string (bs c)) := HW1.out.2.1 3 c rfl
  have wc4 : W1.cell? ⟨bw, ow + 4, none⟩ = some (.string (bs n)) := HW1.out.2.1 4 n rfl
  have wc5 : W1.cell? ⟨bw, ow + 5, none⟩ = some (.string (bs m)) := HW1.out.2.1 5 m rfl
  have hsz : ∀ x ∈ [a, b, c, n, m], x.length ≤ maxLen := fun x hx => by have := HX.out.2 x (List.mem_cons_of_mem _ hx); unfold maxLen; omega
  have cW := fun s (hs : s ∈ [a, b, c, n, m]) W => rword_any s W (hsz s hs)
  have cN := fun s (hs : s ∈ [a, b, c, n, m]) W => rnumber_any s W (hsz s hs)
  have ca := cW a (by simp)
  have cb' := cW b (by simp)
  have cc := cW c (by simp)
  have cn := cN n (by simp)
  have cm := cN m (by simp)
  clear cW cN hsz
  have sub1 : ∀ {A C : World}, C = A → A = C := fun h => h.symm
  go_upto_region 43 with (first | (go_at_call 31; refine (ca _).mono ?_; rintro e w' ⟨rfl, hw⟩; have hw := hw.symm; subst hw))
  go_upto_region 44 with (first | (go_at_call 31; refine (cb' _).mono ?_; rintro e w' ⟨rfl, hw⟩; have hw := hw.symm; subst hw))
  go_upto_region 45 with (first | (go_at_call 31; refine (cc _).mono ?_; rintro e w' ⟨rfl, hw⟩; have hw := hw.symm; subst hw))
  go_upto_region 46 with (first | (go_at_call 32; refine (cn _).mono ?_; rintro e w' ⟨rfl, hw⟩; have hw := hw.symm; subst hw))
  have hne : ¬ bw = W1.heap.size := by have := HW1.out.2.2; omega
  first | (go_region_held3 (fun w' => w'.cell? ⟨bw, ow + 1, none⟩ = some (.string (bs a)) ∧ w'.cell? ⟨bw, ow + 2, none⟩ = some (.string (bs b)) ∧ w'.cell? ⟨bw, ow + 3, none⟩ = some (.string (bs c))) (go_keep) (fail)) | fail
  obtain ⟨nn, hnn⟩ : ∃ nn, nn = (numB n).1 := ⟨_, rfl⟩
  obtain ⟨nk, hnk⟩ : ∃ nk, nk = (numB n).2 := ⟨_, rfl⟩
  obtain ⟨mn, hmn⟩ : ∃ mn, mn = (numB m).1 := ⟨_, rfl⟩
  obtain ⟨mk, hmk⟩ : ∃ mk, mk = (numB m).2 := ⟨_, rfl⟩
  have HLn := Lib.hid (bd_line (P := L.map kq) (B := B) (a := a) (b := b) (c := c) (n := n) (m := m) hp1 hp2)
  rw [← hnn, ← hnk, ← hmn, ← hmk] at HLn
  rw [← hnn, ← hnk]
  rw [← hmn, ← hmk] at cm
  obtain ⟨Wx, hWx⟩ : ∃ Wx, Wx = (W1.alloc (.cells #[.string (bs a), .string (bs b), .string (bs c), .int .i64 nn, .int .i64 (-1)] 40)).drew := ⟨_, rfl⟩
  have hBx : Below W1.heap.size W1 Wx := by rw [hWx]; exact b_drew1 (b_alloc (Below.refl _ _) (Nat.le_refl _) _)
  have nx : Wx.heap[W1.heap.size]? = some (.cells #[.string (bs a), .string (bs b), .string (bs c), .int .i64 nn, .int .i64 (-1)] 40 (0, 0)) := by rw [hWx]; exact heap_alloc_new W1 _
  rw [← hWx]
  clear hWx hnn hnk hmn hmk
  have HZ : Hid (∀ W2, Below W1.heap.size W1 W2 → RdS s0 w L B (.slice ak L.length ck) (.slice ab B.length cb) (.slice (some ⟨bl, ol, none⟩) nl cl) ls W2 ∧ W2.cell? ⟨b2, 1, none⟩ = some (.slice ab B.length cb) ∧ W2.cell? ⟨bw, ow + 5, none⟩ = some (.string (bs m))) := fun W2 h2 => by
    have hR := HW1.out.1.below HY.out.2.2 h2
    have g2 := hR.r2
    rw [← HY.out.2.1] at g2
    exact ⟨hR, cellB g2 rfl, (h2.cell (p := ⟨bw, ow + 5, none⟩) HW1.out.2.2).trans (HW1.out.2.1 5 m rfl)⟩
  obtain ⟨i0, hi0, hz0, hz1, hz2⟩ := info_parts info40
  have HM : Hid (B.length + 1 ≤ maxLen ∧ (B.length + 1) * 64 ≤ 140737488355328) := by have := HLB.out; unfold maxLen; exact ⟨by omega, by omega⟩
  -- what the append gives
  have HA : Hid (∀ (W2 w1 : World) (v1 : Value) (z : Int), Below W1.heap.size W1 W2 → (W2.alloc (.cells #[.string (bs a), .string (bs b), .string (bs c), .int .i64 nn, .int .i64 z] 40)).grownBy w1 (Value.slice ab B.length cb).ownBlock → w1.ownsRow (s0 + 3) 40 5 v1 (B.length + 1) (cellsB B ++ [.string (bs a), .string (bs b), .string (bs c), .int .i64 nn, .int .i64 z]) → (w1.cell? ⟨b2, 1, none⟩ = some (.slice ab B.length cb) ∧ w1.frozen? ⟨b2, 1, none⟩ = false) ∧ RdS s0 w L (B ++ [⟨a, b, c, nn, z⟩]) (.slice ak L.length ck) v1 (.slice (some ⟨bl, ol, none⟩) nl cl) ls (w1.setCell ⟨b2, 1, none⟩ v1)) := fun W2 w1 v1 z h2 hg ho => by
    have hR := HW1.out.1.below HY.out.2.2 (on1 h2 (b_alloc (Below.refl _ W2) (Nat.le_refl _) (.cells #[.string (bs a), .string (bs b), .string (bs c), .int .i64 nn, .int .i64 z] 40)) (Nat.le_refl _))
    have hb := (hg.block (s0 + 2) (by have := hR.sz; omega) (fun e => row_apart hR.ob hR.r2 (by decide) e.symm)).trans hR.r2
    rw [HY.out.2.1]
    exact ⟨⟨cellB hb rfl, frzB hb⟩, hR.addB (x := ⟨a, b, c, nn, z⟩) HY.out.2.2 ho hg⟩
  have HO : Hid (∀ (W2 : World) (z : Int), Below W1.heap.size W1 W2 → (W2.alloc (.cells #[.string (bs a), .string (bs b), .string (bs c), .int .i64 nn, .int .i64 z] 40)).ownsRow (s0 + 3) 40 5 (.slice ab B.length cb) B.length (cellsB B) ∧ s0 + 3 ≤ (W2.alloc (.cells #[.string (bs a), .string (bs b), .string (bs c), .int .i64 nn, .int .i64 z] 40)).heap.size) := fun W2 z h2 => by
    have hR := HW1.out.1.below HY.out.2.2 (on1 h2 (b_alloc (Below.refl _ W2) (Nat.le_refl _) (.cells #[.string (bs a), .string (bs b), .string (bs c), .int .i64 nn, .int .i64 z] 40)) (Nat.le_refl _))
    exact ⟨hR.ob, hR.sz⟩
  have hBl : Hid ((∀ x : Bd, (B ++ [x]).length ≤ k + 1) ∧ L.length ≤ k + 1) := ⟨fun x => by simp; exact HLB.out.2.1, by have := HLB.out.1; omega⟩
  obtain ⟨hRx, xb1, xw5⟩ := HZ.out Wx hBx
  clear hRx g0 g1 f0 f1 gk gb wc1 wc2 wc3 wc4 wc5 w0 ca cb' cc cn
  have x0c := cellB (i := 0) nx rfl
  have x1c := cellB (i := 1) nx rfl
  have x2c := cellB (i := 2) nx rfl
  have x3c := cellB (i := 3) nx rfl
  have x4c := cellB (i := 4) nx rfl
  have x4f := frzB (i := 4) nx
  have hxb : ¬ b2 = W1.heap.size := by have := HW1.out.1.sz; have := HY.out; omega
  obtain ⟨wa, hwa⟩ : ∃ wa, wa = wrd a := ⟨_, rfl⟩
  obtain ⟨wb, hwb⟩ : ∃ wb, wb = wrd b := ⟨_, rfl⟩
  obtain ⟨wc, hwc⟩ : ∃ wc, wc = wrd c := ⟨_, rfl⟩
  rw [← hwa, ← hwb, ← hwc] at HLn ⊢
  clear hwa hwb hwc
  have ways : (wa = false) ∨ (wa = true ∧ wb = false) ∨ (wa = true ∧ wb = true ∧ wc = false) ∨ (wa = true ∧ wb = true ∧ wc = true ∧ nk = false) ∨ (wa = true ∧ wb = true ∧ wc = true ∧ nk = true) := by
    cases wa <;> cases wb <;> cases wc <;> cases nk <;> simp
  cases hany : (m == [97, 110, 121])
  · obtain ⟨W2, hW2⟩ : ∃ W2, W2 = Wx.setCell ⟨W1.heap.size, 4, none⟩ (.int .i64 mn) := ⟨_, rfl⟩
    have HW2 := Lib.hid hW2
    have n2 : W2.heap[W1.heap.size]? = some (.cells #[.string (bs a), .string (bs b), .string (bs c), .int .i64 nn, .int .i64 mn] 40 (0, 0)) := by rw [hW2]; exact (heap_setCell_same Wx W1.heap.size 4 _ 40 _ nx).trans rfl
    have hB2 : Below W1.heap.size W1 W2 := by rw [hW2]; exact hBx.setCell (p := ⟨W1.heap.size, 4, none⟩) (Nat.le_refl _) _
    obtain ⟨_, y1, _⟩ := HZ.out W2 hB2
    have y0c := cellB (i := 0) n2 rfl
    have y1c := cellB (i := 1) n2 rfl
    have y2c := cellB (i := 2) n2 rfl
    have y3c := cellB (i := 3) n2 rfl
    have y4c := cellB (i := 4) n2 rfl
    have HO2 := Lib.hid (HO.out W2 mn hB2)
    have HA2 := Lib.hid (fun w1 v1 => HA.out W2 w1 v1 mn hB2)
    rw [hany] at HLn
    clear hW2 n2 nx
    rcases ways with rfl | ⟨rfl, rfl⟩ | ⟨rfl, rfl, rfl⟩ | ⟨rfl, rfl, rfl, rfl⟩ | ⟨rfl, rfl, rfl, rfl⟩
    all_goals
      cases mk
      all_goals
        go_upto_region 51 with (first | (go_at_call 32; refine (cm _).mono ?_; rintro e w' ⟨rfl, hw⟩; have hw := hw.symm; subst hw))
        rw [← HW2.out]
        go_wp2_with (first | (at_builtin; refine wpList_append_own _ rfl (.tmp 258) (.tmp 260) 23 rfl (s0 + 3) 40 i0 _ 5 64 Tryz.underlying23 hi0 hz0 hz1 hz2 rfl (by decide) (.slice ab B.length cb) B.length (cellsB B) rfl HO2.out.1 ⟨W2.heap.size, 0, none⟩ 1 1 [.string (bs a), .string (bs b), .string (bs c), .int .i64 nn, .int .i64 mn] rfl rfl (new_at _ _ _) (by simp [Value.oneCell']) HM.out.1 HM.out.2 HO2.out.2 ?_; intro v1 w1 hown1 hgrow1 _; obtain ⟨⟨q0, q1⟩, hRd⟩ := HA2.out w1 v1 hgrow1 hown1; obtain ⟨a1, c1, rfl⟩ := own_slice hown1; have e0 := cellB (i := 0) hRd.r0 rfl; have e1 := cellB (i := 1) hRd.r0 rfl; have e2 := frzB (i := 0) hRd.r0; have e3 := frzB (i := 1) hRd.r0; have HRd := Lib.hid hRd; clear hRd hown1 hgrow1))
        first
        | exact hret.out (by rw [HLn.out]; rfl) _ _ rfl rfl rfl rfl (ret_set HRd.out.r0 HRd.out.bl).1 (ret_set HRd.out.r0 HRd.out.bl).2
        | exact hK _ _ _ _ _ _ _ _ _ _ _ _ _ _ _ _ _ _ _ _ _ _ _ _ _ _ _ _ _ _ _ _ _ _ _ _ _ _ _ _ _ _ _ _ _ _ _ _ _ _ _ _ _ _ _ _ _ _ _ _ _ _ _ _ _ _ _ _ _ _ _ _ _ _ _ _ _ _ _ _ _ _ _ _ _ _ _ _ _ _ _ _ _ _ _ _ _ _ _ _ _ _ _ _ _ _ _ _ _ _ _ _ _ _ _ _ _ _ _ _ _ _ _ _ _ _ _ _ _ _ _ _ _ _ _ _ _ _ _ _ _ _ _ _ _ _ _ _ _ _ _ _ _ _ _ _ _ _ _ _ _ _ _ _ _ _ _ _ _ _ _ _ _ _ _ _ _ _ _ _ _ _ _ _ _ _ _ _ _ _ _ _ _ _ _ _ _ _ _ _ _ _ _ _ _ _ _ _ _ _ _ _ _ _ _ _ _ _ _ _ _ _ _ _ _ _ _ _ _ _ _ _ _ _ _ _ _ _ _ _ _ _ _ _ _ _ _ _ _ _ _ _ _ _ _ _ _ HRd.out (by rw [HLn.out]; rfl) hBl.out.2 (hBl.out.1 _)
  · have HO2 := Lib.hid (HO.out Wx (-1) hBx)
    have HA2 := Lib.hid (fun w1 v1 => HA.out Wx w1 v1 (-1) hBx)
    rw [hany] at HLn
    clear nx cm
    rcases ways with rfl | ⟨rfl, rfl⟩ | ⟨rfl, rfl, rfl⟩ | ⟨rfl, rfl, rfl, rfl⟩ | ⟨rfl, rfl, rfl, rfl⟩
    all_goals
      go_wp2_with (first | (at_builtin; refine wpList_append_own _ rfl (.tmp 258) (.tmp 260) 23 rfl (s0 + 3) 40 i0 _ 5 64 Tryz.underlying23 hi0 hz0 hz1 hz2 rfl (by decide) (.slice ab B.length cb) B.length (cellsB B) rfl HO2.out.1 ⟨Wx.heap.size, 0, none⟩ 1 1 [.string (bs a), .string (bs b), .string (bs c), .int .i64 nn, .int .i64 (-1)] rfl rfl (new_at _ _ _) (by simp [Value.oneCell']) HM.out.1 HM.out.2 HO2.out.2 ?_; intro v1 w1 hown1 hgrow1 _; obtain ⟨⟨q0, q1⟩, hRd⟩ := HA2.out w1 v1 hgrow1 hown1; obtain ⟨a1, c1, rfl⟩ := own_slice hown1; have e0 := cellB (i := 0) hRd.r0 rfl; have e1 := cellB (i := 1) hRd.r0 rfl; have e2 := frzB (i := 0) hRd.r0; have e3 := frzB (i := 1) hRd.r0; have HRd := Lib.hid hRd; clear hRd hown1 hgrow1))
      first
      | exact hret.out (by rw [HLn.out]; rfl) _ _ rfl rfl rfl rfl (ret_set HRd.out.r0 HRd.out.bl).1 (ret_set HRd.out.r0 HRd.out.bl).2
      | exact hK _ _ _ _ _ _ _ _ _ _ _ _ _ _ _ _ _ _ _ _ _ _ _ _ _ _ _ _ _ _ _ _ _ _ _ _ _ _ _ _ _ _ _ _ _ _ _ _ _ _ _ _ _ _ _ _ _ _ _ _ _ _ _ _ _ _ _ _ _ _ _ _ _ _ _ _ _ _ _ _ _ _ _ _ _ _ _ _ _ _ _ _ _ _ _ _ _ _ _ _ _ _ _ _ _ _ _ _ _ _ _ _ _ _ _ _ _ _ _ _ _ _ _ _ _ _ _ _ _ _ _ _ _ _ _ _ _ _ _ _ _ _ _ _ _ _ _ _ _ _ _ _ _ _ _ _ _ _ _ _ _ _ _ _ _ _ _ _ _ _ _ _ _ _ _ _ _ _ _ _ _ _ _ _ _ _ _ _ _ _ _ _ _ _ _ _ _ _ _ _ _ _ _ _ _ _ _ _ _ _ _ _ _ _ _ _ _ _ _ _ _ _ _ _ _ _ _ _ _ _ _ _ _ _ _ _ _ _ _ _ _ _ _ _ _ _ _ _ _ _ _ _ _ _ _ _ _ HRd.out (by rw [HLn.out]; rfl) hBl.out.2 (hBl.out.1 _)
end Go.Proofs.YtgjlonilbhlneaaGreatDoor
