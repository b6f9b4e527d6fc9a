/-
  The walk of kinref1.ReadSchema, whole.
-/
import Derived.Test.YtgjlonilbhlneaaGreatDoorM38
import Derived.Test.YtgjlonilbhlneaaGreatDoorM22
import Derived.Laws.ResultCell
namespace Go.Proofs.YtgjlonilbhlneaaGreatDoor
open Go.RowKit
set_option linter.unusedVariables false
set_option linter.unusedSimpArgs false

theorem results3 {fn : Func} {p u v : Tmp} {ty : TypeId} (h : fn.results = #[.cell p ty, .tmp u, .tmp v]) (tmps : Array Value) (P : Program) (w : World) :
    (results fn tmps).run P w = ((asAddr (tmps.getD p undef)).run P w).andThen fun a w₁ => ((loadVar ty a).run P w₁).andThen fun x w₂ => .ok (.tuple #[x, tmps.getD u undef, tmps.getD v undef]) w₂ := by
  simp only [results, h]
  simp [Sem.run_bind, Result.andThen]
theorem bd_none {x0 : Nm} {xs : List Nm} (h : (x0 == [98, 111, 110, 100]) = false ∨ ¬ xs.length = 5) : rBd (x0 :: xs) = none := by
  unfold rBd
  split
  · rename_i k a b c x y e
    injection e with e1 e2
    subst e1
    rcases h with h | h
    · rw [if_neg]
      rw [show (x0 == wBond) = false from h]
      simp
    · rw [e2] at h; simp at h
  · rfl
theorem line_none {P : List (Nm × List Nm × List Fd)} {B : List Bd} {Wd : List Nm} (h1 : rKd Wd B = none) (h2 : rBd Wd = none) : rLine P B Wd = none := by
  unfold rLine
  rw [h1, h2]
theorem kd_none0 {x0 : Nm} {xs : List Nm} {B : List Bd} (h : (x0 == [107, 105, 110, 100]) = false) : rKd (x0 :: xs) B = none := by
  unfold rKd
  cases xs with
  | nil => rfl
  | cons x1 r => rw [kdOf_no h]
theorem kd_none1 {Wd : List Nm} {B : List Bd} (h : ¬ B = []) : rKd Wd B = none := by
  unfold rKd
  have : B.isEmpty = false := by simpa using h
  cases kdOf Wd with
  | none => rfl
  | some q => simp [this]
theorem kdOf_name {x0 x1 : Nm} {r : List Nm} {q : Nm × List Nm × List Nm} (h : kdOf (x0 :: x1 :: r) = some q) : q.1 = x1 := by
  rcases r with _ | ⟨o, _ | ⟨x3, ws⟩⟩
  · have e : kdOf [x0, x1] = if (x0 == wKind) = true then some (x1, [], []) else none := rfl
    rw [e] at h
    split at h
    · injection h with h; rw [← h]
    · cases h
  · have e : kdOf [x0, x1, o] = if (x0 == wKind) = true then some (x1, [], [o]) else none := rfl
    rw [e] at h
    split at h
    · injection h with h; rw [← h]
    · cases h
  · have e : kdOf (x0 :: x1 :: o :: x3 :: ws) = if (x0 == wKind) = true then (if (o == wOf) = true then some (x1, ofL x3, ws) else some (x1, [], o :: x3 :: ws)) else none := rfl
    rw [e] at h
    split at h
    · split at h
      · injection h with h; rw [← h]
      · injection h with h; rw [← h]
    · cases h
theorem kd_none2 {x0 x1 : Nm} {r : List Nm} {B : List Bd} (h : wrd x1 = false) : rKd (x0 :: x1 :: r) B = none := by
  unfold rKd
  cases hk : kdOf (x0 :: x1 :: r) with
  | none => rfl
  | some q => simp [kdOf_name hk, h]
theorem RdS.isK {s0 : Nat} {w : World} {L : List Kd} {B : List Bd} {vk vb vl : Value} {ls : List Nm} {wr : World} (h : RdS s0 w L B vk vb vl ls wr) : IsK wr vk L ∧ Parts wr L ∧ IsB wr vb B := ⟨own_isK h.ok, fun k hk => ⟨own_isS (h.ps k hk).1, own_isF (h.ps k hk).2⟩, own_isB h.ob⟩
def RdI (t : Nm) (w : World) (vl : Value) (s9 : Value) (wr : World) : Prop := ∃ (k : Nat) (L : List Kd) (B : List Bd) (vk vb : Value), k + 1 ≤ (pcs 10 t).length ∧ s9 = .int .i64 (k : Int) ∧ RdS w.heap.size w L B vk vb vl (pcs 10 t) wr ∧ rGo [] [] 0 (pcs 10 t) = rGo (L.map kq) B k ((pcs 10 t).drop k) ∧ L.length ≤ k ∧ B.length ≤ k
theorem sz_of {t : Nm} {L : List Kd} {B : List Bd} (ht : t.length ≤ 10000000) (h : rGo [] [] 0 (pcs 10 t) = .ok (L.map kq, B)) : SzK L ∧ SzB B := by
  obtain ⟨h1, h2⟩ := rGo_sz (N := maxLen) (pcs 10 t) [] [] 0 _ (fun y hy => by have := pcs_le 10 t y hy; unfold maxLen; omega) (fun q hq => by cases hq) (fun q hq => by cases hq) h
  exact ⟨fun k hk => h1 (kq k) (List.mem_map.2 ⟨k, hk, rfl⟩), h2⟩
theorem rd_round {s0 b1 b2 : Nat} {w wr : World} {L : List Kd} {B : List Bd} {vk vb : Value} {al : Option Addr} {nl cl : Nat} {ls : List Nm} {k : Nat} {last : Int} (hS : RdS s0 w L B vk vb (.slice al nl cl) ls wr) (hs : s0 ≤ w.heap.size) (hb1 : b1 = s0 + 1) (hb2 : b2 = s0 + 2) {y : Nm} (hy : ls[k]? = some y) (hyl : y.length ≤ 10000000) (hnl : nl = ls.length) (hlm : ls.length ≤ 10000001) (hk : (k : Int) < last) (hLn : L.length ≤ k) (hBn : B.length ≤ k) {K : Act → World → Prop} {Q : Exit → Act → World → Prop} (u0 u1 u3 u4 u10 u11 u12 u13 u14 u15 u16 u17 u18 u19 u20 u21 u22 u23 u24 u25 u26 u27 u28 u29 u30 u31 u32 u33 u34 u35 u36 u37 u38 u39 u40 u41 u42 u43 u44 u45 u46 u47 u48 u49 u50 u51 u52 u53 u54 u55 u56 u57 u58 u59 u60 u61 u62 u63 u64 u65 u66 u67 u68 u69 u70 u71 u72 u73 u74 u75 u76 u77 u78 u79 u80 u81 u82 u83 u84 u85 u86 u87 u88 u89 u90 u91 u92 u93 u94 u95 u96 u97 u98 u99 u100 u101 u102 u103 u104 u105 u106 u107 u108 u109 u110 u111 u112 u113 u114 u115 u116 u117 u118 u119 u120 u121 u122 u123 u124 u125 u126 u127 u128 u129 u130 u131 u132 u133 u134 u135 u136 u137 u138 u139 u140 u141 u142 u143 u144 u145 u146 u147 u148 u149 u150 u151 u152 u153 u154 u155 u156 u157 u158 u159 u160 u161 u162 u163 u164 u165 u166 u167 u168 u169 u170 u171 u172 u173 u174 u175 u176 u177 u178 u179 u180 u181 u182 u183 u184 u185 u186 u187 u188 u189 u190 u191 u192 u193 u194 u195 u196 u197 u198 u199 u200 u201 u202 u203 u204 u205 u206 u207 u208 u209 u210 u211 u212 u213 u214 u215 u216 u217 u218 u219 u220 u221 u222 u223 u224 u225 u226 u227 u228 u229 u230 u231 u232 u233 u234 u235 u236 u237 u238 u239 u240 u241 u242 u243 u244 u245 u246 u247 u248 u249 u250 u251 u252 u253 u254 u255 u256 u257 u258 u259 u260 u261 u262 u263 u264 u265 u266 u267 u268 u269 u270 u271 u272 u273 u274 u275 u276 u277 u278 u279 u280 : Value) (hret : Hid (rLine (L.map kq) B (pcs 32 y) = none → RdRet s0 w (k : Int) Q)) (hK : RdKeep s0 b1 b2 w L B al nl cl ls k last (pcs 32 y) K u0 u1 u28 u29 u30 u31 u32 u33 u34 u267 u268 u269 u270 u271 u272 u273 u274 u275 u276 u277 u278 u279 u280) :
    Code.wp Tryz.prog (rdL 0) (Exit.then K Q) ⟨#[u0, u1, .pointer (some ⟨s0, 0, none⟩), u3, u4, .slice (some ⟨b1, 0, none⟩) 4 4, .pointer (some ⟨b2, 0, none⟩), .slice al nl cl, .int .i64 last, .int .i64 (k : Int), u10, u11, u12, u13, u14, u15, u16, u17, u18, u19, u20, u21, u22, u23, u24, u25, u26, u27, u28, u29, u30, u31, u32, u33, u34, u35, u36, u37, u38, u39, u40, u41, u42, u43, u44, u45, u46, u47, u48, u49, u50, u51, u52, u53, u54, u55, u56, u57, u58, u59, u60, u61, u62, u63, u64, u65, u66, u67, u68, u69, u70, u71, u72, u73, u74, u75, u76, u77, u78, u79, u80, u81, u82, u83, u84, u85, u86, u87, u88, u89, u90, u91, u92, u93, u94, u95, u96, u97, u98, u99, u100, u101, u102, u103, u104, u105, u106, u107, u108, u109, u110, u111, u112, u113, u114, u115, u116, u117, u118, u119, u120, u121, u122, u123, u124, u125, u126, u127, u128, u129, u130, u131, u132, u133, u134, u135, u136, u137, u138, u139, u140, u141, u142, u143, u144, u145, u146, u147, u148, u149, u150, u151, u152, u153, u154, u155, u156, u157, u158, u159, u160, u161, u162, u163, u164, u165, u166, u167, u168, u169, u170, u171, u172, u173, u174, u175, u176, u177, u178, u179, u180, u181, u182, u183, u184, u185, u186, u187, u188, u189, u190, u191, u192, u193, u194, u195, u196, u197, u198, u199, u200, u201, u202, u203, u204, u205, u206, u207, u208, u209, u210, u211, u212, u213, u214, u215, u216, u217, u218, u219, u220, u221, u222, u223, u224, u225, u226, u227, u228, u229, u230, u231, u232, u233, u234, u235, u236, u237, u238, u239, u240, u241, u242, u243, u244, u245, u246, u247, u248, u249, u250, u251, u252, u253, u254, u255, u256, u257, u258, u259, u260, u261, u262, u263, u264, u265, u266, u267, u268, u269, u270, u271, u272, u273, u274, u275, u276, u277, u278, u279, u280], []⟩ wr := by
  obtain ⟨x0, xs, hW⟩ := List.exists_cons_of_ne_nil (pcs_ne 32 y)
  rw [hW] at hret hK
  cases h0 : (x0 == [107, 105, 110, 100])
  · cases h1 : (x0 == [98, 111, 110, 100])
    · exact rd_no hS hs hb1 hb2 hy hyl hnl hlm hk hLn hBn hW (.inl ⟨h0, h1⟩) (hret.out (line_none (kd_none0 h0) (bd_none (.inl h1)))) u0 u1 u3 u4 u10 u11 u12 u13 u14 u15 u16 u17 u18 u19 u20 u21 u22 u23 u24 u25 u26 u27 u28 u29 u30 u31 u32 u33 u34 u35 u36 u37 u38 u39 u40 u41 u42 u43 u44 u45 u46 u47 u48 u49 u50 u51 u52 u53 u54 u55 u56 u57 u58 u59 u60 u61 u62 u63 u64 u65 u66 u67 u68 u69 u70 u71 u72 u73 u74 u75 u76 u77 u78 u79 u80 u81 u82 u83 u84 u85 u86 u87 u88 u89 u90 u91 u92 u93 u94 u95 u96 u97 u98 u99 u100 u101 u102 u103 u104 u105 u106 u107 u108 u109 u110 u111 u112 u113 u114 u115 u116 u117 u118 u119 u120 u121 u122 u123 u124 u125 u126 u127 u128 u129 u130 u131 u132 u133 u134 u135 u136 u137 u138 u139 u140 u141 u142 u143 u144 u145 u146 u147 u148 u149 u150 u151 u152 u153 u154 u155 u156 u157 u158 u159 u160 u161 u162 u163 u164 u165 u166 u167 u168 u169 u170 u171 u172 u173 u174 u175 u176 u177 u178 u179 u180 u181 u182 u183 u184 u185 u186 u187 u188 u189 u190 u191 u192 u193 u194 u195 u196 u197 u198 u199 u200 u201 u202 u203 u204 u205 u206 u207 u208 u209 u210 u211 u212 u213 u214 u215 u216 u217 u218 u219 u220 u221 u222 u223 u224 u225 u226 u227 u228 u229 u230 u231 u232 u233 u234 u235 u236 u237 u238 u239 u240 u241 u242 u243 u244 u245 u246 u247 u248 u249 u250 u251 u252 u253 u254 u255 u256 u257 u258 u259 u260 u261 u262 u263 u264 u265 u266 u267 u268 u269 u270 u271 u272 u273 u274 u275 u276 u277 u278 u279 u280
    · by_cases h5 : xs.length = 5
      · obtain ⟨a, b, c, n, m, e⟩ : ∃ a b c n m, xs = [a, b, c, n, m] := by
          match xs, h5 with
          | [a, b, c, n, m], _ => exact ⟨a, b, c, n, m, rfl⟩
        exact rd_bond hS hs hb1 hb2 hy hyl hnl hlm hk hLn hBn hW h0 h1 e u0 u1 u3 u4 u10 u11 u12 u13 u14 u15 u16 u17 u18 u19 u20 u21 u22 u23 u24 u25 u26 u27 u28 u29 u30 u31 u32 u33 u34 u35 u36 u37 u38 u39 u40 u41 u42 u43 u44 u45 u46 u47 u48 u49 u50 u51 u52 u53 u54 u55 u56 u57 u58 u59 u60 u61 u62 u63 u64 u65 u66 u67 u68 u69 u70 u71 u72 u73 u74 u75 u76 u77 u78 u79 u80 u81 u82 u83 u84 u85 u86 u87 u88 u89 u90 u91 u92 u93 u94 u95 u96 u97 u98 u99 u100 u101 u102 u103 u104 u105 u106 u107 u108 u109 u110 u111 u112 u113 u114 u115 u116 u117 u118 u119 u120 u121 u122 u123 u124 u125 u126 u127 u128 u129 u130 u131 u132 u133 u134 u135 u136 u137 u138 u139 u140 u141 u142 u143 u144 u145 u146 u147 u148 u149 u150 u151 u152 u153 u154 u155 u156 u157 u158 u159 u160 u161 u162 u163 u164 u165 u166 u167 u168 u169 u170 u171 u172 u173 u174 u175 u176 u177 u178 u179 u180 u181 u182 u183 u184 u185 u186 u187 u188 u189 u190 u191 u192 u193 u194 u195 u196 u197 u198 u199 u200 u201 u202 u203 u204 u205 u206 u207 u208 u209 u210 u211 u212 u213 u214 u215 u216 u217 u218 u219 u220 u221 u222 u223 u224 u225 u226 u227 u228 u229 u230 u231 u232 u233 u234 u235 u236 u237 u238 u239 u240 u241 u242 u243 u244 u245 u246 u247 u248 u249 u250 u251 u252 u253 u254 u255 u256 u257 u258 u259 u260 u261 u262 u263 u264 u265 u266 u267 u268 u269 u270 u271 u272 u273 u274 u275 u276 u277 u278 u279 u280 hret hK
      · exact rd_no hS hs hb1 hb2 hy hyl hnl hlm hk hLn hBn hW (.inr (.inl ⟨h0, h1, h5⟩)) (hret.out (line_none (kd_none0 h0) (bd_none (.inr h5)))) u0 u1 u3 u4 u10 u11 u12 u13 u14 u15 u16 u17 u18 u19 u20 u21 u22 u23 u24 u25 u26 u27 u28 u29 u30 u31 u32 u33 u34 u35 u36 u37 u38 u39 u40 u41 u42 u43 u44 u45 u46 u47 u48 u49 u50 u51 u52 u53 u54 u55 u56 u57 u58 u59 u60 u61 u62 u63 u64 u65 u66 u67 u68 u69 u70 u71 u72 u73 u74 u75 u76 u77 u78 u79 u80 u81 u82 u83 u84 u85 u86 u87 u88 u89 u90 u91 u92 u93 u94 u95 u96 u97 u98 u99 u100 u101 u102 u103 u104 u105 u106 u107 u108 u109 u110 u111 u112 u113 u114 u115 u116 u117 u118 u119 u120 u121 u122 u123 u124 u125 u126 u127 u128 u129 u130 u131 u132 u133 u134 u135 u136 u137 u138 u139 u140 u141 u142 u143 u144 u145 u146 u147 u148 u149 u150 u151 u152 u153 u154 u155 u156 u157 u158 u159 u160 u161 u162 u163 u164 u165 u166 u167 u168 u169 u170 u171 u172 u173 u174 u175 u176 u177 u178 u179 u180 u181 u182 u183 u184 u185 u186 u187 u188 u189 u190 u191 u192 u193 u194 u195 u196 u197 u198 u199 u200 u201 u202 u203 u204 u205 u206 u207 u208 u209 u210 u211 u212 u213 u214 u215 u216 u217 u218 u219 u220 u221 u222 u223 u224 u225 u226 u227 u228 u229 u230 u231 u232 u233 u234 u235 u236 u237 u238 u239 u240 u241 u242 u243 u244 u245 u246 u247 u248 u249 u250 u251 u252 u253 u254 u255 u256 u257 u258 u259 u260 u261 u262 u263 u264 u265 u266 u267 u268 u269 u270 u271 u272 u273 u274 u275 u276 u277 u278 u279 u280
  · have h1 : (x0 == [98, 111, 110, 100]) = false := by
      have : x0 = [107, 105, 110, 100] := by simpa using h0
      rw [this]; rfl
    by_cases hB : B = []
    · have hBl : ((B.length : Int) == 0) = true := by rw [hB]; rfl
      cases xs with
      | nil => exact rd_no hS hs hb1 hb2 hy hyl hnl hlm hk hLn hBn hW (.inr (.inr (.inr (.inl ⟨h0, h1, hBl, rfl⟩)))) (hret.out (line_none rfl (bd_none (.inl h1)))) u0 u1 u3 u4 u10 u11 u12 u13 u14 u15 u16 u17 u18 u19 u20 u21 u22 u23 u24 u25 u26 u27 u28 u29 u30 u31 u32 u33 u34 u35 u36 u37 u38 u39 u40 u41 u42 u43 u44 u45 u46 u47 u48 u49 u50 u51 u52 u53 u54 u55 u56 u57 u58 u59 u60 u61 u62 u63 u64 u65 u66 u67 u68 u69 u70 u71 u72 u73 u74 u75 u76 u77 u78 u79 u80 u81 u82 u83 u84 u85 u86 u87 u88 u89 u90 u91 u92 u93 u94 u95 u96 u97 u98 u99 u100 u101 u102 u103 u104 u105 u106 u107 u108 u109 u110 u111 u112 u113 u114 u115 u116 u117 u118 u119 u120 u121 u122 u123 u124 u125 u126 u127 u128 u129 u130 u131 u132 u133 u134 u135 u136 u137 u138 u139 u140 u141 u142 u143 u144 u145 u146 u147 u148 u149 u150 u151 u152 u153 u154 u155 u156 u157 u158 u159 u160 u161 u162 u163 u164 u165 u166 u167 u168 u169 u170 u171 u172 u173 u174 u175 u176 u177 u178 u179 u180 u181 u182 u183 u184 u185 u186 u187 u188 u189 u190 u191 u192 u193 u194 u195 u196 u197 u198 u199 u200 u201 u202 u203 u204 u205 u206 u207 u208 u209 u210 u211 u212 u213 u214 u215 u216 u217 u218 u219 u220 u221 u222 u223 u224 u225 u226 u227 u228 u229 u230 u231 u232 u233 u234 u235 u236 u237 u238 u239 u240 u241 u242 u243 u244 u245 u246 u247 u248 u249 u250 u251 u252 u253 u254 u255 u256 u257 u258 u259 u260 u261 u262 u263 u264 u265 u266 u267 u268 u269 u270 u271 u272 u273 u274 u275 u276 u277 u278 u279 u280
      | cons x1 r =>
        cases hw1 : wrd x1
        · exact rd_no hS hs hb1 hb2 hy hyl hnl hlm hk hLn hBn hW (.inr (.inr (.inr (.inr ⟨h0, h1, hBl, x1, r, rfl, hw1⟩)))) (hret.out (line_none (kd_none2 hw1) (bd_none (.inl h1)))) u0 u1 u3 u4 u10 u11 u12 u13 u14 u15 u16 u17 u18 u19 u20 u21 u22 u23 u24 u25 u26 u27 u28 u29 u30 u31 u32 u33 u34 u35 u36 u37 u38 u39 u40 u41 u42 u43 u44 u45 u46 u47 u48 u49 u50 u51 u52 u53 u54 u55 u56 u57 u58 u59 u60 u61 u62 u63 u64 u65 u66 u67 u68 u69 u70 u71 u72 u73 u74 u75 u76 u77 u78 u79 u80 u81 u82 u83 u84 u85 u86 u87 u88 u89 u90 u91 u92 u93 u94 u95 u96 u97 u98 u99 u100 u101 u102 u103 u104 u105 u106 u107 u108 u109 u110 u111 u112 u113 u114 u115 u116 u117 u118 u119 u120 u121 u122 u123 u124 u125 u126 u127 u128 u129 u130 u131 u132 u133 u134 u135 u136 u137 u138 u139 u140 u141 u142 u143 u144 u145 u146 u147 u148 u149 u150 u151 u152 u153 u154 u155 u156 u157 u158 u159 u160 u161 u162 u163 u164 u165 u166 u167 u168 u169 u170 u171 u172 u173 u174 u175 u176 u177 u178 u179 u180 u181 u182 u183 u184 u185 u186 u187 u188 u189 u190 u191 u192 u193 u194 u195 u196 u197 u198 u199 u200 u201 u202 u203 u204 u205 u206 u207 u208 u209 u210 u211 u212 u213 u214 u215 u216 u217 u218 u219 u220 u221 u222 u223 u224 u225 u226 u227 u228 u229 u230 u231 u232 u233 u234 u235 u236 u237 u238 u239 u240 u241 u242 u243 u244 u245 u246 u247 u248 u249 u250 u251 u252 u253 u254 u255 u256 u257 u258 u259 u260 u261 u262 u263 u264 u265 u266 u267 u268 u269 u270 u271 u272 u273 u274 u275 u276 u277 u278 u279 u280
        · rcases r with _ | ⟨o, _ | ⟨x3, ws⟩⟩
          · refine rd_kind_plain hS hs hb1 hb2 hy hyl hnl hlm hk hLn hBn hW h0 h1 hB rfl hw1 (.inl (by simp)) ?_ u0 u1 u3 u4 u10 u11 u12 u13 u14 u15 u16 u17 u18 u19 u20 u21 u22 u23 u24 u25 u26 u27 u28 u29 u30 u31 u32 u33 u34 u35 u36 u37 u38 u39 u40 u41 u42 u43 u44 u45 u46 u47 u48 u49 u50 u51 u52 u53 u54 u55 u56 u57 u58 u59 u60 u61 u62 u63 u64 u65 u66 u67 u68 u69 u70 u71 u72 u73 u74 u75 u76 u77 u78 u79 u80 u81 u82 u83 u84 u85 u86 u87 u88 u89 u90 u91 u92 u93 u94 u95 u96 u97 u98 u99 u100 u101 u102 u103 u104 u105 u106 u107 u108 u109 u110 u111 u112 u113 u114 u115 u116 u117 u118 u119 u120 u121 u122 u123 u124 u125 u126 u127 u128 u129 u130 u131 u132 u133 u134 u135 u136 u137 u138 u139 u140 u141 u142 u143 u144 u145 u146 u147 u148 u149 u150 u151 u152 u153 u154 u155 u156 u157 u158 u159 u160 u161 u162 u163 u164 u165 u166 u167 u168 u169 u170 u171 u172 u173 u174 u175 u176 u177 u178 u179 u180 u181 u182 u183 u184 u185 u186 u187 u188 u189 u190 u191 u192 u193 u194 u195 u196 u197 u198 u199 u200 u201 u202 u203 u204 u205 u206 u207 u208 u209 u210 u211 u212 u213 u214 u215 u216 u217 u218 u219 u220 u221 u222 u223 u224 u225 u226 u227 u228 u229 u230 u231 u232 u233 u234 u235 u236 u237 u238 u239 u240 u241 u242 u243 u244 u245 u246 u247 u248 u249 u250 u251 u252 u253 u254 u255 u256 u257 u258 u259 u260 u261 u262 u263 u264 u265 u266 u267 u268 u269 u270 u271 u272 u273 u274 u275 u276 u277 u278 u279 u280 hret hK
            show (if (x0 == wKind) = true then _ else _) = _
            rw [show (x0 == wKind) = true from h0]; rfl
          · refine rd_kind_plain hS hs hb1 hb2 hy hyl hnl hlm hk hLn hBn hW h0 h1 hB rfl hw1 (.inl (by simp)) ?_ u0 u1 u3 u4 u10 u11 u12 u13 u14 u15 u16 u17 u18 u19 u20 u21 u22 u23 u24 u25 u26 u27 u28 u29 u30 u31 u32 u33 u34 u35 u36 u37 u38 u39 u40 u41 u42 u43 u44 u45 u46 u47 u48 u49 u50 u51 u52 u53 u54 u55 u56 u57 u58 u59 u60 u61 u62 u63 u64 u65 u66 u67 u68 u69 u70 u71 u72 u73 u74 u75 u76 u77 u78 u79 u80 u81 u82 u83 u84 u85 u86 u87 u88 u89 u90 u91 u92 u93 u94 u95 u96 u97 u98 u99 u100 u101 u102 u103 u104 u105 u106 u107 u108 u109 u110 u111 u112 u113 u114 u115 u116 u117 u118 u119 u120 u121 u122 u123 u124 u125 u126 u127 u128 u129 u130 u131 u132 u133 u134 u135 u136 u137 u138 u139 u140 u141 u142 u143 u144 u145 u146 u147 u148 u149 u150 u151 u152 u153 u154 u155 u156 u157 u158 u159 u160 u161 u162 u163 u164 u165 u166 u167 u168 u169 u170 u171 u172 u173 u174 u175 u176 u177 u178 u179 u180 u181 u182 u183 u184 u185 u186 u187 u188 u189 u190 u191 u192 u193 u194 u195 u196 u197 u198 u199 u200 u201 u202 u203 u204 u205 u206 u207 u208 u209 u210 u211 u212 u213 u214 u215 u216 u217 u218 u219 u220 u221 u222 u223 u224 u225 u226 u227 u228 u229 u230 u231 u232 u233 u234 u235 u236 u237 u238 u239 u240 u241 u242 u243 u244 u245 u246 u247 u248 u249 u250 u251 u252 u253 u254 u255 u256 u257 u258 u259 u260 u261 u262 u263 u264 u265 u266 u267 u268 u269 u270 u271 u272 u273 u274 u275 u276 u277 u278 u279 u280 hret hK
            show (if (x0 == wKind) = true then _ else _) = _
            rw [show (x0 == wKind) = true from h0]; rfl
          · cases hof : (o == [111, 102])
            · refine rd_kind_plain hS hs hb1 hb2 hy hyl hnl hlm hk hLn hBn hW h0 h1 hB rfl hw1 (.inr ⟨by simp, o, rfl, hof⟩) ?_ u0 u1 u3 u4 u10 u11 u12 u13 u14 u15 u16 u17 u18 u19 u20 u21 u22 u23 u24 u25 u26 u27 u28 u29 u30 u31 u32 u33 u34 u35 u36 u37 u38 u39 u40 u41 u42 u43 u44 u45 u46 u47 u48 u49 u50 u51 u52 u53 u54 u55 u56 u57 u58 u59 u60 u61 u62 u63 u64 u65 u66 u67 u68 u69 u70 u71 u72 u73 u74 u75 u76 u77 u78 u79 u80 u81 u82 u83 u84 u85 u86 u87 u88 u89 u90 u91 u92 u93 u94 u95 u96 u97 u98 u99 u100 u101 u102 u103 u104 u105 u106 u107 u108 u109 u110 u111 u112 u113 u114 u115 u116 u117 u118 u119 u120 u121 u122 u123 u124 u125 u126 u127 u128 u129 u130 u131 u132 u133 u134 u135 u136 u137 u138 u139 u140 u141 u142 u143 u144 u145 u146 u147 u148 u149 u150 u151 u152 u153 u154 u155 u156 u157 u158 u159 u160 u161 u162 u163 u164 u165 u166 u167 u168 u169 u170 u171 u172 u173 u174 u175 u176 u177 u178 u179 u180 u181 u182 u183 u184 u185 u186 u187 u188 u189 u190 u191 u192 u193 u194 u195 u196 u197 u198 u199 u200 u201 u202 u203 u204 u205 u206 u207 u208 u209 u210 u211 u212 u213 u214 u215 u216 u217 u218 u219 u220 u221 u222 u223 u224 u225 u226 u227 u228 u229 u230 u231 u232 u233 u234 u235 u236 u237 u238 u239 u240 u241 u242 u243 u244 u245 u246 u247 u248 u249 u250 u251 u252 u253 u254 u255 u256 u257 u258 u259 u260 u261 u262 u263 u264 u265 u266 u267 u268 u269 u270 u271 u272 u273 u274 u275 u276 u277 u278 u279 u280 hret hK
              show (if (x0 == wKind) = true then (if (o == wOf) = true then _ else _) else _) = _
              rw [show (x0 == wKind) = true from h0, show (o == wOf) = false from hof]; rfl
            · refine rd_kind_of hS hs hb1 hb2 hy hyl hnl hlm hk hLn hBn hW h0 h1 hB rfl hw1 hof rfl ?_ u0 u1 u3 u4 u10 u11 u12 u13 u14 u15 u16 u17 u18 u19 u20 u21 u22 u23 u24 u25 u26 u27 u28 u29 u30 u31 u32 u33 u34 u35 u36 u37 u38 u39 u40 u41 u42 u43 u44 u45 u46 u47 u48 u49 u50 u51 u52 u53 u54 u55 u56 u57 u58 u59 u60 u61 u62 u63 u64 u65 u66 u67 u68 u69 u70 u71 u72 u73 u74 u75 u76 u77 u78 u79 u80 u81 u82 u83 u84 u85 u86 u87 u88 u89 u90 u91 u92 u93 u94 u95 u96 u97 u98 u99 u100 u101 u102 u103 u104 u105 u106 u107 u108 u109 u110 u111 u112 u113 u114 u115 u116 u117 u118 u119 u120 u121 u122 u123 u124 u125 u126 u127 u128 u129 u130 u131 u132 u133 u134 u135 u136 u137 u138 u139 u140 u141 u142 u143 u144 u145 u146 u147 u148 u149 u150 u151 u152 u153 u154 u155 u156 u157 u158 u159 u160 u161 u162 u163 u164 u165 u166 u167 u168 u169 u170 u171 u172 u173 u174 u175 u176 u177 u178 u179 u180 u181 u182 u183 u184 u185 u186 u187 u188 u189 u190 u191 u192 u193 u194 u195 u196 u197 u198 u199 u200 u201 u202 u203 u204 u205 u206 u207 u208 u209 u210 u211 u212 u213 u214 u215 u216 u217 u218 u219 u220 u221 u222 u223 u224 u225 u226 u227 u228 u229 u230 u231 u232 u233 u234 u235 u236 u237 u238 u239 u240 u241 u242 u243 u244 u245 u246 u247 u248 u249 u250 u251 u252 u253 u254 u255 u256 u257 u258 u259 u260 u261 u262 u263 u264 u265 u266 u267 u268 u269 u270 u271 u272 u273 u274 u275 u276 u277 u278 u279 u280 hret hK
              show (if (x0 == wKind) = true then (if (o == wOf) = true then _ else _) else _) = _
              rw [show (x0 == wKind) = true from h0, show (o == wOf) = true from hof, ofL_eq]; rfl
    · have hBl : ((B.length : Int) == 0) = false := by
        have : B.length ≠ 0 := fun e => hB (List.eq_nil_of_length_eq_zero e)
        rw [beq_eq_false_iff_ne]; omega
      exact rd_no hS hs hb1 hb2 hy hyl hnl hlm hk hLn hBn hW (.inr (.inr (.inl ⟨h0, h1, hBl⟩))) (hret.out (line_none (kd_none1 hB) (bd_none (.inl h1)))) u0 u1 u3 u4 u10 u11 u12 u13 u14 u15 u16 u17 u18 u19 u20 u21 u22 u23 u24 u25 u26 u27 u28 u29 u30 u31 u32 u33 u34 u35 u36 u37 u38 u39 u40 u41 u42 u43 u44 u45 u46 u47 u48 u49 u50 u51 u52 u53 u54 u55 u56 u57 u58 u59 u60 u61 u62 u63 u64 u65 u66 u67 u68 u69 u70 u71 u72 u73 u74 u75 u76 u77 u78 u79 u80 u81 u82 u83 u84 u85 u86 u87 u88 u89 u90 u91 u92 u93 u94 u95 u96 u97 u98 u99 u100 u101 u102 u103 u104 u105 u106 u107 u108 u109 u110 u111 u112 u113 u114 u115 u116 u117 u118 u119 u120 u121 u122 u123 u124 u125 u126 u127 u128 u129 u130 u131 u132 u133 u134 u135 u136 u137 u138 u139 u140 u141 u142 u143 u144 u145 u146 u147 u148 u149 u150 u151 u152 u153 u154 u155 u156 u157 u158 u159 u160 u161 u162 u163 u164 u165 u166 u167 u168 u169 u170 u171 u172 u173 u174 u175 u176 u177 u178 u179 u180 u181 u182 u183 u184 u185 u186 u187 u188 u189 u190 u191 u192 u193 u194 u195 u196 u197 u198 u199 u200 u201 u202 u203 u204 u205 u206 u207 u208 u209 u210 u211 u212 u213 u214 u215 u216 u217 u218 u219 u220 u221 u222 u223 u224 u225 u226 u227 u228 u229 u230 u231 u232 u233 u234 u235 u236 u237 u238 u239 u240 u241 u242 u243 u244 u245 u246 u247 u248 u249 u250 u251 u252 u253 u254 u255 u256 u257 u258 u259 u260 u261 u262 u263 u264 u265 u266 u267 u268 u269 u270 u271 u272 u273 u274 u275 u276 u277 u278 u279 u280
set_option maxHeartbeats 16000000 in
set_option maxRecDepth 1000000 in
theorem rread_any (t : Nm) (w : World) (ht : t.length ≤ 10000000) : Calls Tryz.prog 10 #[.string (bs t)] w (RsPost t w) := by
  obtain ⟨ls, hls⟩ : ∃ ls, ls = pcs 10 t := ⟨_, rfl⟩
  have cC := fun W => rcut_any 10 t W ht
  rw [show (((10 : UInt8).toNat : Nat) : Int) = 10 from rfl, cutR_eq, ← hls] at cC
  have hl1 : 1 ≤ ls.length := by rw [hls]; exact List.length_pos_iff.2 (pcs_ne 10 t)
  have hlm : ls.length ≤ 10000001 := by rw [hls]; have := pcs_many 10 t; omega
  have HLl : Hid (∀ y ∈ ls, y.length ≤ 10000000) := fun y hy => by rw [hls] at hy; exact Nat.le_trans (pcs_le 10 t y hy) ht
  have HLS := Lib.hid hls
  clear hls
  obtain ⟨W0, hW0⟩ : ∃ W0, W0 = ((w.alloc (.cells #[.slice none 0 0, .slice none 0 0] 25)).alloc (.cells #[.string ⟨#[]⟩, .string ⟨#[105, 110, 116]⟩, .string ⟨#[98, 111, 111, 108]⟩, .string ⟨#[116, 101, 120, 116]⟩] 9)).alloc (.cells #[.slice none 0 0, .slice none 0 0] 25) := ⟨_, rfl⟩
  have hB0 : Below w.heap.size w W0 := by rw [hW0]; exact b_alloc (b_alloc (b_alloc (Below.refl _ _) (Nat.le_refl _) _) (Nat.le_refl _) _) (Nat.le_refl _) _
  have n0 : W0.heap[w.heap.size]? = some (.cells #[.slice none 0 0, .slice none 0 0] 25 (0, 0)) := by
    rw [hW0]; exact (Below.heap_alloc _ _ _ (by simp; omega)).trans ((Below.heap_alloc _ _ _ (by simp)).trans (heap_alloc_new w _))
  have n1 : W0.heap[w.heap.size + 1]? = some (.cells #[.string ⟨#[]⟩, .string ⟨#[105, 110, 116]⟩, .string ⟨#[98, 111, 111, 108]⟩, .string ⟨#[116, 101, 120, 116]⟩] 9 (0, 0)) := by
    have := heap_alloc_new (w.alloc (.cells #[.slice none 0 0, .slice none 0 0] 25)) (.cells #[.string ⟨#[]⟩, .string ⟨#[105, 110, 116]⟩, .string ⟨#[98, 111, 111, 108]⟩, .string ⟨#[116, 101, 120, 116]⟩] 9)
    rw [World.size_alloc] at this
    rw [hW0]; exact (Below.heap_alloc _ _ _ (by simp)).trans this
  have n2 : W0.heap[w.heap.size + 2]? = some (.cells #[.slice none 0 0, .slice none 0 0] 25 (0, 0)) := by
    have := heap_alloc_new ((w.alloc (.cells #[.slice none 0 0, .slice none 0 0] 25)).alloc (.cells #[.string ⟨#[]⟩, .string ⟨#[105, 110, 116]⟩, .string ⟨#[98, 111, 111, 108]⟩, .string ⟨#[116, 101, 120, 116]⟩] 9)) (.cells #[.slice none 0 0, .slice none 0 0] 25)
    rw [World.size_alloc, World.size_alloc] at this
    rw [hW0]; exact this
  have hz0 : W0.heap.size = w.heap.size + 3 := by rw [hW0]; simp
  have HS0 : Hid (∀ W1 vl, W1.ownsRow W0.heap.size 9 1 vl ls.length (cellsS ls) → Below W0.heap.size W0 W1 → RdS w.heap.size w [] [] (.slice none 0 0) (.slice none 0 0) vl ls W1) := fun W1 vl ho h1 => by
    rw [hz0] at ho
    exact ⟨(h1.block _ (by omega)).trans n0, (h1.block _ (by omega)).trans n1, (h1.block _ (by omega)).trans n2, World.ownsRow_nil _ _ _ _, World.ownsRow_nil _ _ _ _, (fun k hk => by cases hk), ho, by have := h1.size; omega, on1 hB0 h1 (Nat.le_refl _)⟩
  have HW0 := Lib.hid hW0
  clear hW0 hB0 n0 n1 n2 hz0
  have hlI : (1 : Int) ≤ (ls.length : Int) := by omega
  have hlI2 : (ls.length : Int) ≤ 10000001 := by omega
  go_enter Tryz.func10, Tryz.ntmps10
  go_upto_region 3 with fail
  rw [← HW0.out]
  go_wp2_with (first | (go_at_call 30; refine (cC _).mono ?_; rintro e W1 ⟨v, rfl, hv, hB1⟩; have hS0 := HS0.out W1 v hv hB1; obtain ⟨al, cl, rfl⟩ := own_slice hv; have HS1 := Lib.hid hS0; clear hv hB1 hS0))
  go_loopw [9] (fun s9 wr => RdI t w (.slice al ls.length cl) s9 wr) (fun s9 _ => ls.length - (intOf s9).toNat)
  case atStart =>
    refine ⟨0, [], [], _, _, ?_, rfl, by rw [← HLS.out]; exact HS1.out, rfl, Nat.le_refl _, Nat.le_refl _⟩
    rw [← HLS.out]; omega
  case round =>
    obtain ⟨k, L, B, vk, vb, hk1, rfl, hS, hgo, hLn, hBn⟩ := hrel
    rw [← HLS.out] at hk1 hS hgo
    obtain ⟨y, hy⟩ : ∃ y, ls[k]? = some y := ⟨ls[k]'(by omega), by rw [List.getElem?_eq_getElem]⟩
    have hyl := HLl.out y (List.mem_of_getElem? hy)
    by_cases hlt : k + 1 < ls.length
    · have hkl : (k : Int) < (ls.length : Int) - 1 := by omega
      have hst := rGo_at (P := L.map kq) (B := B) (i := k) hy hlt
      have HT := Lib.hid hgo
      refine rd_round hS (Nat.le_refl _) rfl rfl hy hyl rfl hlm hkl hLn hBn _ _ _ _ _ _ _ _ _ _ _ _ _ _ _ _ _ _ _ _ _ _ _ _ _ _ _ _ _ _ _ _ _ _ _ _ _ _ _ _ _ _ _ _ _ _ _ _ _ _ _ _ _ _ _ _ _ _ _ _ _ _ _ _ _ _ _ _ _ _ _ _ _ _ _ _ _ _ _ _ _ _ _ _ _ _ _ _ _ _ _ _ _ _ _ _ _ _ _ _ _ _ _ _ _ _ _ _ _ _ _ _ _ _ _ _ _ _ _ _ _ _ _ _ _ _ _ _ _ _ _ _ _ _ _ _ _ _ _ _ _ _ _ _ _ _ _ _ _ _ _ _ _ _ _ _ _ _ _ _ _ _ _ _ _ _ _ _ _ _ _ _ _ _ _ _ _ _ _ _ _ _ _ _ _ _ _ _ _ _ _ _ _ _ _ _ _ _ _ _ _ _ _ _ _ _ _ _ _ _ _ _ _ _ _ _ _ _ _ _ _ _ _ _ _ _ _ _ _ _ _ _ _ _ _ _ _ _ _ _ _ _ _ _ _ _ _ _ _ _ _ _ _ _ _ _ _ _ _ _ _ _ _ _ _ _ _ _ _ _ _ _ _ _ _ ?_ ?_
      · intro hn a' w' d t2 t3 t4 hh hb
        rw [hn] at hst
        refine bodyPost_ret (v := .tuple #[.agg #[.slice none 0 0, .slice none 0 0], .int .i64 (k : Int), .int .i64 2]) ?_ d ⟨hb, .inl ⟨k, by rw [← HLS.out]; exact hgo.trans hst, rfl⟩⟩
        have c0 := cellB (i := 0) hh rfl
        have c1 := cellB (i := 1) hh rfl
        rw [results3 rfl]
        simp [Array.getD_eq_getD_getElem?, t2, t3, t4, go_sem, c0, c1]
      · unfold RdKeep
        intro q3 q4 q10 q11 q12 q13 q14 q15 q16 q17 q18 q19 q20 q21 q22 q23 q24 q25 q26 q27 q35 q36 q37 q38 q39 q40 q41 q42 q43 q44 q45 q46 q47 q48 q49 q50 q51 q52 q53 q54 q55 q56 q57 q58 q59 q60 q61 q62 q63 q64 q65 q66 q67 q68 q69 q70 q71 q72 q73 q74 q75 q76 q77 q78 q79 q80 q81 q82 q83 q84 q85 q86 q87 q88 q89 q90 q91 q92 q93 q94 q95 q96 q97 q98 q99 q100 q101 q102 q103 q104 q105 q106 q107 q108 q109 q110 q111 q112 q113 q114 q115 q116 q117 q118 q119 q120 q121 q122 q123 q124 q125 q126 q127 q128 q129 q130 q131 q132 q133 q134 q135 q136 q137 q138 q139 q140 q141 q142 q143 q144 q145 q146 q147 q148 q149 q150 q151 q152 q153 q154 q155 q156 q157 q158 q159 q160 q161 q162 q163 q164 q165 q166 q167 q168 q169 q170 q171 q172 q173 q174 q175 q176 q177 q178 q179 q180 q181 q182 q183 q184 q185 q186 q187 q188 q189 q190 q191 q192 q193 q194 q195 q196 q197 q198 q199 q200 q201 q202 q203 q204 q205 q206 q207 q208 q209 q210 q211 q212 q213 q214 q215 q216 q217 q218 q219 q220 q221 q222 q223 q224 q225 q226 q227 q228 q229 q230 q231 q232 q233 q234 q235 q236 q237 q238 q239 q240 q241 q242 q243 q244 q245 q246 q247 q248 q249 q250 q251 q252 q253 q254 q255 q256 q257 q258 q259 q260 q261 q262 q263 q264 q265 q266 L' B' vk' vb' w' hS' hl hL' hB'
        refine ⟨?_, ?_⟩
        · (repeat apply Exists.intro)
          refine ⟨⟨k + 1, L', B', vk', vb', by rw [← HLS.out]; omega, rfl, by rw [← HLS.out]; exact hS', ?_, hL', hB'⟩, rfl⟩
          rw [← HLS.out, hgo, hst, hl]
        · simp [intOf]; omega
    · have hke : k + 1 = ls.length := by omega
      have hkl : ¬ (k : Int) < (ls.length : Int) - 1 := by omega
      have hend := rGo_end (P := L.map kq) (B := B) (i := k) hy hke
      obtain ⟨hK, hP, hb⟩ := hS.isK
      obtain ⟨ak, ck, evk⟩ := own_slice hS.ok
      obtain ⟨ab, cb, evb⟩ := own_slice hS.ob
      subst evk evb
      have hbl : ∃ b o, al = some ⟨b, o, none⟩ ∧ wr.cell? ⟨b, o + k, none⟩ = some (.string (bs y)) := by
        rcases own_isS hS.ol with ⟨ao, c, e, e2, _⟩ | ⟨b, o, c, e, h1, h2, h3, h4⟩
        · rw [e2] at hy; cases hy
        · injection e with e _ _; exact ⟨b, o, e, h4 k y hy⟩
      obtain ⟨bl, ol, rfl, cy⟩ := hbl
      have hkI : (ls.length : Int) - 1 = (k : Int) := by omega
      have g0 := cellB (i := 0) hS.r0 rfl
      have g1 := cellB (i := 1) hS.r0 rfl
      have f0 := frzB (i := 0) hS.r0
      have f1 := frzB (i := 1) hS.r0
      have s0c : wr.cell? ⟨w.heap.size + 1 + 1, 0, none⟩ = some (.slice ak L.length ck) := cellB (i := 0) hS.r2 rfl
      have s1c : wr.cell? ⟨w.heap.size + 1 + 1, 1, none⟩ = some (.slice ab B.length cb) := cellB (i := 1) hS.r2 rfl
      have HS := Lib.hid hS
      have hki : (k : Int) < (ls.length : Int) := by omega
      have hk0 : (k : Int) ≤ 10000001 := by omega
      by_cases hye : y = []
      · have hok : rGo [] [] 0 (pcs 10 t) = .ok (L.map kq, B) := by rw [← HLS.out, hgo, hend, if_pos hye]
        have HOk := Lib.hid hok
        obtain ⟨z1, z2⟩ := sz_of ht hok
        have cR := rright_any hK hP z1 hb z2
        have hyE : y.isEmpty = true := by rw [hye]; rfl
        subst hye
        clear hy hend hgo hS hK hP hb hok z1 z2 hLn hBn hyl hk1
        have H5 : Hid (∀ W5, Below wr.heap.size wr W5 → RdS w.heap.size w L B (.slice ak L.length ck) (.slice ab B.length cb) (.slice (some ⟨bl, ol, none⟩) ls.length cl) ls W5) := fun W5 h5 => HS.out.below (Nat.le_refl _) h5
        by_cases hse : (sErr L B).2 = 0
        · rw [hse] at cR
          have HE := Lib.hid hse
          clear hse g0 g1 f0 f1
          go_wp2_with (first | (go_at_call 33; refine cR.mono ?_; rintro e W5 ⟨rfl, hB5⟩; have h5 := H5.out W5 hB5; have g0 := cellB (i := 0) h5.r0 rfl; have g1 := cellB (i := 1) h5.r0 rfl; have f0 := frzB (i := 0) h5.r0; have f1 := frzB (i := 1) h5.r0; have t0c : W5.cell? ⟨w.heap.size + 1 + 1, 0, none⟩ = some (.slice ak L.length ck) := cellB (i := 0) h5.r2 rfl; have t1c : W5.cell? ⟨w.heap.size + 1 + 1, 1, none⟩ = some (.slice ab B.length cb) := cellB (i := 1) h5.r2 rfl; have HH5 := Lib.hid h5; clear h5 hB5))
          have h5 := HH5.out
          have hh : ((W5.setCell ⟨w.heap.size, 0, none⟩ (.slice ak L.length ck)).setCell ⟨w.heap.size, 1, none⟩ (.slice ab B.length cb)).heap[w.heap.size]? = some (.cells #[.slice ak L.length ck, .slice ab B.length cb] 25 (0, 0)) := (heap_setCell_same _ w.heap.size 1 _ 25 _ ((heap_setCell_same W5 w.heap.size 0 _ 25 _ h5.r0).trans rfl)).trans rfl
          have c0 := cellB (i := 0) hh rfl
          have c1 := cellB (i := 1) hh rfl
          have ost : ∀ {base : Nat} {e : TypeId} {size : Nat} {v : Value} {n : Nat} {xs : List Value}, W5.ownsRow base e size v n xs → (25 : TypeId) ≠ e → ((W5.setCell ⟨w.heap.size, 0, none⟩ (.slice ak L.length ck)).setCell ⟨w.heap.size, 1, none⟩ (.slice ab B.length cb)).ownsRow base e size v n xs := fun h hne => own_set (own_set h (row_apart h h5.r0 hne) _ _) (row_apart h h5.r0 hne) _ _
          refine bodyPost_ret (v := .tuple #[.agg #[.slice ak L.length ck, .slice ab B.length cb], .int .i64 0, .int .i64 0]) ?_ rfl ⟨(h5.bl.setCell (p := ⟨w.heap.size, 0, none⟩) (Nat.le_refl _) _).setCell (p := ⟨w.heap.size, 1, none⟩) (Nat.le_refl _) _, .inr (.inr ⟨L, B, _, _, HOk.out, HE.out, rfl, own_isK (ost h5.ok (by decide)), fun q hq => ⟨own_isS (ost (h5.ps q hq).1 (by decide)), own_isF (ost (h5.ps q hq).2 (by decide))⟩, own_isB (ost h5.ob (by decide))⟩)⟩
          rw [results3 rfl]
          simp [go_sem, c0, c1]
        · have HE := Lib.hid hse
          obtain ⟨z, hz⟩ : ∃ z, z = (sErr L B).2 := ⟨_, rfl⟩
          rw [← hz] at hse cR
          have hzb : (z == 0) = false := by simpa using hse
          have HZ := Lib.hid hz
          clear hz g0 g1 f0 f1
          go_wp2_with (first | (go_at_call 33; refine cR.mono ?_; rintro e W5 ⟨rfl, hB5⟩; have h5 := H5.out W5 hB5; have g0 := cellB (i := 0) h5.r0 rfl; have g1 := cellB (i := 1) h5.r0 rfl; have f0 := frzB (i := 0) h5.r0; have f1 := frzB (i := 1) h5.r0; have HH5 := Lib.hid h5; clear h5 hB5))
          have hh := ret_set HH5.out.r0 HH5.out.bl
          have c0 := cellB (i := 0) hh.1 rfl
          have c1 := cellB (i := 1) hh.1 rfl
          refine bodyPost_ret (v := .tuple #[.agg #[.slice none 0 0, .slice none 0 0], .int .i64 0, .int .i64 z]) ?_ rfl ⟨hh.2, .inr (.inl ⟨L, B, HOk.out, HE.out, by rw [HZ.out]⟩)⟩
          rw [results3 rfl]
          simp [go_sem, c0, c1]
      · have herr : rGo [] [] 0 (pcs 10 t) = .error k := by rw [← HLS.out, hgo, hend, if_neg hye]
        have HErr := Lib.hid herr
        have hyE : y.isEmpty = false := by simpa using hye
        clear hy hend hgo hS hK hP hb herr hLn hBn hyl hk1
        go_wp2
        have hh := ret_set HS.out.r0 HS.out.bl
        have c0 := cellB (i := 0) hh.1 rfl
        have c1 := cellB (i := 1) hh.1 rfl
        refine bodyPost_ret (v := .tuple #[.agg #[.slice none 0 0, .slice none 0 0], .int .i64 (k : Int), .int .i64 2]) ?_ rfl ⟨hh.2, .inl ⟨k, HErr.out, rfl⟩⟩
        rw [results3 rfl]
        simp [go_sem, c0, c1]
end Go.Proofs.YtgjlonilbhlneaaGreatDoor
