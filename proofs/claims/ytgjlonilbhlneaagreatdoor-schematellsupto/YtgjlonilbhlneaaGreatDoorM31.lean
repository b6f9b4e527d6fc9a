/-
  What kinref1.ReadSchema has read so far, and how it lies in memory.
-/
import Derived.Test.YtgjlonilbhlneaaGreatDoorM30
import Derived.Test.YtgjlonilbhlneaaGreatDoorM19
namespace Go.Proofs.YtgjlonilbhlneaaGreatDoor
open Go.RowKit
set_option linter.unusedVariables false
set_option linter.unusedSimpArgs false

def loopsIn : Code → List Code
  | .loop c => c :: loopsIn c
  | .seq a b => loopsIn a ++ loopsIn b
  | .block _ c => loopsIn c
  | .scope c => loopsIn c
  | .cond _ a b => loopsIn a ++ loopsIn b
  | _ => []
noncomputable def rdL (i : Nat) : Code := (((Tryz.f10.body.map loopsIn).getD [])[i]?).getD .skip

structure RdS (s0 : Nat) (w : World) (L : List Kd) (B : List Bd) (vk vb vl : Value) (ls : List Nm) (wr : World) : Prop where
  r0 : wr.heap[s0]? = some (.cells #[.slice none 0 0, .slice none 0 0] 25 (0, 0))
  r1 : wr.heap[s0 + 1]? = some (.cells #[.string ⟨#[]⟩, .string ⟨#[105, 110, 116]⟩, .string ⟨#[98, 111, 111, 108]⟩, .string ⟨#[116, 101, 120, 116]⟩] 9 (0, 0))
  r2 : wr.heap[s0 + 2]? = some (.cells #[vk, vb] 25 (0, 0))
  ok : wr.ownsRow (s0 + 3) 55 3 vk L.length (cellsK L)
  ob : wr.ownsRow (s0 + 3) 40 5 vb B.length (cellsB B)
  ps : PartsO wr (s0 + 3) L
  ol : wr.ownsRow (s0 + 3) 9 1 vl ls.length (cellsS ls)
  sz : s0 + 3 ≤ wr.heap.size
  bl : Below s0 w wr
theorem RdS.below {s0 : Nat} {w : World} {L : List Kd} {B : List Bd} {vk vb vl : Value} {ls : List Nm} {wr W : World} (h : RdS s0 w L B vk vb vl ls wr) (hs : s0 ≤ w.heap.size) (hB : Below wr.heap.size wr W) : RdS s0 w L B vk vb vl ls W := by
  have hz := h.sz
  exact ⟨(hB.block _ (by omega)).trans h.r0, (hB.block _ (by omega)).trans h.r1, (hB.block _ (by omega)).trans h.r2, own_bel h.ok hB, own_bel h.ob hB, fun k hk => ⟨own_bel (h.ps k hk).1 hB, own_bel (h.ps k hk).2 hB⟩, own_bel h.ol hB, Nat.le_trans hz hB.size, on1 h.bl hB hs⟩
theorem bl_grown {s0 base : Nat} {w W w1 : World} {v : Value} {e : TypeId} {size n : Nat} {xs : List Value} (hB : Below s0 w W) (hs : s0 ≤ w.heap.size) (ho : W.ownsRow base e size v n xs) (hb : s0 ≤ base) (hgr : W.grownBy w1 v.ownBlock) : Below s0 w w1 :=
  hB.grown hgr (Nat.le_trans hs hB.size) (fun g hg => Nat.le_trans hb (ho.lt g hg).1)
theorem RdS.addK {s0 : Nat} {w : World} {L : List Kd} {B : List Bd} {vk vb vl : Value} {ls : List Nm} {W w1 : World} {k : Kd} {v1 : Value} (h : RdS s0 w L B vk vb vl ls W) (hs : s0 ≤ w.heap.size) (hvo : W.ownsRow (s0 + 3) 9 1 k.vo k.of.length (cellsS k.of)) (hvf : W.ownsRow (s0 + 3) 52 4 k.vf k.fs.length (cellsF k.fs)) (hown : w1.ownsRow (s0 + 3) 55 3 v1 (L.length + 1) (cellsK L ++ k.cells)) (hgr : W.grownBy w1 vk.ownBlock) :
    RdS s0 w (L ++ [k]) B v1 vb vl ls (w1.setCell ⟨s0 + 2, 0, none⟩ v1) := by
  have hz := h.sz
  have st : ∀ {b : Nat} {cs : Array Value} {t : TypeId}, W.heap[b]? = some (.cells cs t (0, 0)) → t ≠ 55 → w1.heap[b]? = some (.cells cs t (0, 0)) := fun {b cs t} hb ht => (hgr.block b (Array.getElem?_eq_some_iff.1 hb).1 (fun e => row_apart h.ok hb ht e.symm)).trans hb
  have h2 := st h.r2 (by decide)
  refine ⟨(heap_setCell_other w1 _ _ _ (by simp)).trans (st h.r0 (by decide)), (heap_setCell_other w1 _ _ _ (by simp)).trans (st h.r1 (by decide)), (heap_setCell_same w1 (s0 + 2) 0 _ 25 _ h2).trans rfl, ?_, own_oth h.ob h.ok (by decide) h.r2 (by decide) hgr, fun q hq => ?_, own_oth h.ol h.ok (by decide) h.r2 (by decide) hgr, ?_, ?_⟩
  · rw [List.length_append, cellsK_app, show cellsK [k] = k.cells by simp [cellsK]]
    exact own_set hown (row_apart hown h2 (by decide)) _ _
  · rcases List.mem_append.1 hq with hq | hq
    · exact ⟨own_oth (h.ps q hq).1 h.ok (by decide) h.r2 (by decide) hgr, own_oth (h.ps q hq).2 h.ok (by decide) h.r2 (by decide) hgr⟩
    · obtain rfl : q = k := by simpa using hq
      exact ⟨own_oth hvo h.ok (by decide) h.r2 (by decide) hgr, own_oth hvf h.ok (by decide) h.r2 (by decide) hgr⟩
  · rw [World.size_setCell]; exact Nat.le_trans hz hgr.size
  · exact (bl_grown h.bl hs h.ok (by omega) hgr).setCell (p := ⟨s0 + 2, 0, none⟩) (by simp) _
theorem RdS.addB {s0 : Nat} {w : World} {L : List Kd} {B : List Bd} {vk vb vl : Value} {ls : List Nm} {W w1 : World} {x : Bd} {v1 : Value} (h : RdS s0 w L B vk vb vl ls W) (hs : s0 ≤ w.heap.size) (hown : w1.ownsRow (s0 + 3) 40 5 v1 (B.length + 1) (cellsB B ++ x.cells)) (hgr : W.grownBy w1 vb.ownBlock) :
    RdS s0 w L (B ++ [x]) vk v1 vl ls (w1.setCell ⟨s0 + 2, 1, none⟩ v1) := by
  have hz := h.sz
  have st : ∀ {b : Nat} {cs : Array Value} {t : TypeId}, W.heap[b]? = some (.cells cs t (0, 0)) → t ≠ 40 → w1.heap[b]? = some (.cells cs t (0, 0)) := fun {b cs t} hb ht => (hgr.block b (Array.getElem?_eq_some_iff.1 hb).1 (fun e => row_apart h.ob hb ht e.symm)).trans hb
  have h2 := st h.r2 (by decide)
  refine ⟨(heap_setCell_other w1 _ _ _ (by simp)).trans (st h.r0 (by decide)), (heap_setCell_other w1 _ _ _ (by simp)).trans (st h.r1 (by decide)), (heap_setCell_same w1 (s0 + 2) 1 _ 25 _ h2).trans rfl, own_oth h.ok h.ob (by decide) h.r2 (by decide) hgr, ?_, fun q hq => ?_, own_oth h.ol h.ob (by decide) h.r2 (by decide) hgr, ?_, ?_⟩
  · rw [List.length_append, cellsB_app, show cellsB [x] = x.cells by simp [cellsB]]
    exact own_set hown (row_apart hown h2 (by decide)) _ _
  · exact ⟨own_oth (h.ps q hq).1 h.ob (by decide) h.r2 (by decide) hgr, own_oth (h.ps q hq).2 h.ob (by decide) h.r2 (by decide) hgr⟩
  · rw [World.size_setCell]; exact Nat.le_trans hz hgr.size
  · exact (bl_grown h.bl hs h.ob (by omega) hgr).setCell (p := ⟨s0 + 2, 1, none⟩) (by simp) _

theorem rGo_at {P : List (Nm × List Nm × List Fd)} {B : List Bd} {i : Nat} {ls : List Nm} {k : Nat} {y : Nm} (hy : ls[k]? = some y) (hk : k + 1 < ls.length) : rGo P B i (ls.drop k) = match rLine P B (pcs 32 y) with
    | none => .error i
    | some st => rGo st.1 st.2 (i + 1) (ls.drop (k + 1)) := by
  rw [dropK hy]
  obtain ⟨z, hz⟩ : ∃ z, ls[k + 1]? = some z := ⟨ls[k + 1], by simp [hk]⟩
  rw [dropK hz]
  rfl
theorem rGo_end {P : List (Nm × List Nm × List Fd)} {B : List Bd} {i : Nat} {ls : List Nm} {k : Nat} {y : Nm} (hy : ls[k]? = some y) (hk : k + 1 = ls.length) : rGo P B i (ls.drop k) = if y = [] then .ok (P, B) else .error i := by
  rw [dropK hy, List.drop_eq_nil_of_le (by omega)]
  rfl
theorem pcs_le (c : UInt8) : ∀ (l : Nm) (y : Nm), y ∈ pcs c l → y.length ≤ l.length
  | [], y, h => by
    obtain rfl : y = [] := by simpa [pcs] using h
    simp
  | x :: r, y, h => by
    by_cases hx : x = c
    · subst hx
      rw [pcs_hit] at h
      rcases List.mem_cons.1 h with rfl | h
      · simp
      · have := pcs_le x r y h; simp; omega
    · obtain ⟨a, t, e1, e2⟩ := pcs_miss hx r
      rw [e2] at h
      rcases List.mem_cons.1 h with rfl | h
      · have := pcs_le c r a (by rw [e1]; simp); simp; omega
      · have := pcs_le c r y (by rw [e1]; simp [h]); simp; omega
theorem pcs_many (c : UInt8) : ∀ (l : Nm), (pcs c l).length ≤ l.length + 1
  | [] => by simp [pcs]
  | x :: r => by
    by_cases hx : x = c
    · subst hx
      rw [pcs_hit]
      have := pcs_many x r; simp; omega
    · obtain ⟨a, t, e1, e2⟩ := pcs_miss hx r
      have := pcs_many c r
      rw [e1] at this
      rw [e2]
      simp at this ⊢; omega
def szP (N : Nat) (P : List (Nm × List Nm × List Fd)) : Prop := ∀ q ∈ P, q.1.length ≤ N ∧ ∀ f ∈ q.2.2, f.nm.length ≤ N
def szBd (N : Nat) (B : List Bd) : Prop := ∀ x ∈ B, x.nm.length ≤ N
theorem rFd_sz {l : Nm} {f : Fd} (h : rFd l = some f) : f.nm.length ≤ l.length := by
  unfold rFd at h
  split at h
  · rename_i a x e
    split at h
    · injection h with h
      subst h
      exact pcs_le 58 l a (by rw [e]; simp)
    · cases h
  · cases h
theorem kdOf_mem2 {Wd : List Nm} {q : Nm × List Nm × List Nm} (h : kdOf Wd = some q) : q.1 ∈ Wd ∧ ∀ x ∈ q.2.2, x ∈ Wd := by
  unfold kdOf at h
  split at h
  · split at h
    · split at h
      · injection h with h; subst h; exact ⟨by simp, fun x hx => by simp [hx]⟩
      · injection h with h; subst h; exact ⟨by simp, fun x hx => by simp only [List.mem_cons] at hx ⊢; exact .inr (.inr hx)⟩
    · cases h
  · split at h
    · injection h with h; subst h; exact ⟨by simp, fun x hx => by simp [hx]⟩
    · cases h
  · cases h
theorem rLine_sz {N : Nat} {P : List (Nm × List Nm × List Fd)} {B : List Bd} {Wd : List Nm} {st : List (Nm × List Nm × List Fd) × List Bd} (hW : ∀ x ∈ Wd, x.length ≤ N) (hP : szP N P) (hB : szBd N B) (h : rLine P B Wd = some st) : szP N st.1 ∧ szBd N st.2 := by
  unfold rLine at h
  split at h
  · rename_i q e
    injection h with h
    subst h
    refine ⟨fun p hp => ?_, hB⟩
    rcases List.mem_append.1 hp with hp | hp
    · exact hP p hp
    · obtain rfl : p = q := by simpa using hp
      unfold rKd at e
      split at e
      · cases e
      · rename_i q0 hk
        split at e
        · injection e with e
          subst e
          obtain ⟨m1, m2⟩ := kdOf_mem2 hk
          refine ⟨hW _ m1, fun f hf => ?_⟩
          obtain ⟨x, hx, hxf⟩ := List.mem_filterMap.1 hf
          exact Nat.le_trans (rFd_sz hxf) (hW _ (m2 x hx))
        · cases e
  · split at h
    · rename_i x e
      injection h with h
      subst h
      refine ⟨hP, fun y hy => ?_⟩
      rcases List.mem_append.1 hy with hy | hy
      · exact hB y hy
      · obtain rfl : y = x := by simpa using hy
        unfold rBd at e
        split at e
        · split at e
          · injection e with e
            subst e
            exact hW _ (by simp)
          · cases e
        · cases e
    · cases h
theorem rGo_sz {N : Nat} : ∀ (ls : List Nm) (P : List (Nm × List Nm × List Fd)) (B : List Bd) (i : Nat) (st : List (Nm × List Nm × List Fd) × List Bd), (∀ y ∈ ls, y.length ≤ N) → szP N P → szBd N B → rGo P B i ls = .ok st → szP N st.1 ∧ szBd N st.2
  | [], P, B, i, st, _, hP, hB, h => by
    unfold rGo at h; injection h with h; subst h; exact ⟨hP, hB⟩
  | [z], P, B, i, st, _, hP, hB, h => by
    unfold rGo at h
    split at h
    · injection h with h; subst h; exact ⟨hP, hB⟩
    · cases h
  | y :: y' :: r, P, B, i, st, hl, hP, hB, h => by
    unfold rGo at h
    split at h
    · cases h
    · rename_i s2 e
      obtain ⟨q1, q2⟩ := rLine_sz (fun x hx => Nat.le_trans (pcs_le 32 y x hx) (hl y (by simp))) hP hB e
      exact rGo_sz (y' :: r) s2.1 s2.2 (i + 1) st (fun z hz => hl z (List.mem_cons_of_mem _ hz)) q1 q2 h
def RsPost (t : Nm) (w : World) (e : Ending) (w' : World) : Prop :=
  Below w.heap.size w w' ∧ ((∃ k : Nat, rGo [] [] 0 (pcs 10 t) = .error k ∧ e = .returned (.tuple #[.agg #[.slice none 0 0, .slice none 0 0], .int .i64 (k : Int), .int .i64 2]))
    ∨ (∃ L B, rGo [] [] 0 (pcs 10 t) = .ok (L.map kq, B) ∧ ¬ (sErr L B).2 = 0 ∧ e = .returned (.tuple #[.agg #[.slice none 0 0, .slice none 0 0], .int .i64 0, .int .i64 (sErr L B).2]))
    ∨ (∃ L B vk vb, rGo [] [] 0 (pcs 10 t) = .ok (L.map kq, B) ∧ (sErr L B).2 = 0 ∧ e = .returned (.tuple #[.agg #[vk, vb], .int .i64 0, .int .i64 0]) ∧ IsK w' vk L ∧ Parts w' L ∧ IsB w' vb B))
end Go.Proofs.YtgjlonilbhlneaaGreatDoor

/-
  A round of kinref1.ReadSchema: a line that is none.
-/
namespace Go.Proofs.YtgjlonilbhlneaaGreatDoor
open Go.RowKit
set_option linter.unusedVariables false
set_option linter.unusedSimpArgs false

def RdRet (s0 : Nat) (w : World) (k : Int) (Q : Exit → Act → World → Prop) : Prop := ∀ (a' : Act) (w' : World), a'.defers = [] → a'.tmps[2]? = some (.pointer (some ⟨s0, 0, none⟩)) → a'.tmps[3]? = some (.int .i64 k) → a'.tmps[4]? = some (.int .i64 2) → w'.heap[s0]? = some (.cells #[.slice none 0 0, .slice none 0 0] 25 (0, 0)) → Below s0 w w' → Q .ret a' w'
theorem ret_set {s0 : Nat} {w W : World} (h : W.heap[s0]? = some (.cells #[.slice none 0 0, .slice none 0 0] 25 (0, 0))) (hB : Below s0 w W) : ((W.setCell ⟨s0, 0, none⟩ (.slice none 0 0)).setCell ⟨s0, 1, none⟩ (.slice none 0 0)).heap[s0]? = some (.cells #[.slice none 0 0, .slice none 0 0] 25 (0, 0)) ∧ Below s0 w ((W.setCell ⟨s0, 0, none⟩ (.slice none 0 0)).setCell ⟨s0, 1, none⟩ (.slice none 0 0)) :=
  ⟨(heap_setCell_same _ s0 1 _ 25 _ ((heap_setCell_same W s0 0 _ 25 _ h).trans rfl)).trans rfl, (hB.setCell (p := ⟨s0, 0, none⟩) (Nat.le_refl _) _).setCell (p := ⟨s0, 1, none⟩) (Nat.le_refl _) _⟩
set_option maxHeartbeats 8000000 in
set_option maxRecDepth 1000000 in
theorem rd_no {s0 b1 b2 : Nat} {w wr : World} {L : List Kd} {B : List Bd} {vk vb : Value} {al : Option Addr} {nl cl : Nat} {ls : List Nm} {k : Nat} {last : Int} (hS : RdS s0 w L B vk vb (.slice al nl cl) ls wr) (hs : s0 ≤ w.heap.size) (hb1 : b1 = s0 + 1) (hb2 : b2 = s0 + 2) {y : Nm} (hy : ls[k]? = some y) (hyl : y.length ≤ 10000000) (hnl : nl = ls.length) (hlm : ls.length ≤ 10000001) (hk : (k : Int) < last) (hLn : L.length ≤ k) (hBn : B.length ≤ k) {x0 : Nm} {xs : List Nm} (hW : pcs 32 y = x0 :: xs)
    (hp : ((x0 == [107, 105, 110, 100]) = false ∧ (x0 == [98, 111, 110, 100]) = false) ∨ ((x0 == [107, 105, 110, 100]) = false ∧ (x0 == [98, 111, 110, 100]) = true ∧ ¬ xs.length = 5) ∨ ((x0 == [107, 105, 110, 100]) = true ∧ (x0 == [98, 111, 110, 100]) = false ∧ ((B.length : Int) == 0) = false) ∨ ((x0 == [107, 105, 110, 100]) = true ∧ (x0 == [98, 111, 110, 100]) = false ∧ ((B.length : Int) == 0) = true ∧ xs = []) ∨ ((x0 == [107, 105, 110, 100]) = true ∧ (x0 == [98, 111, 110, 100]) = false ∧ ((B.length : Int) == 0) = true ∧ ∃ x1 r, xs = x1 :: r ∧ wrd x1 = false))
    {K : Act → World → Prop} {Q : Exit → Act → World → Prop} (hret : Hid (RdRet s0 w (k : Int) Q)) (u0 u1 u3 u4 u10 u11 u12 u13 u14 u15 u16 u17 u18 u19 u20 u21 u22 u23 u24 u25 u26 u27 u28 u29 u30 u31 u32 u33 u34 u35 u36 u37 u38 u39 u40 u41 u42 u43 u44 u45 u46 u47 u48 u49 u50 u51 u52 u53 u54 u55 u56 u57 u58 u59 u60 u61 u62 u63 u64 u65 u66 u67 u68 u69 u70 u71 u72 u73 u74 u75 u76 u77 u78 u79 u80 u81 u82 u83 u84 u85 u86 u87 u88 u89 u90 u91 u92 u93 u94 u95 u96 u97 u98 u99 u100 u101 u102 u103 u104 u105 u106 u107 u108 u109 u110 u111 u112 u113 u114 u115 u116 u117 u118 u119 u120 u121 u122 u123 u124 u125 u126 u127 u128 u129 u130 u131 u132 u133 u134 u135 u136 u137 u138 u139 u140 u141 u142 u143 u144 u145 u146 u147 u148 u149 u150 u151 u152 u153 u154 u155 u156 u157 u158 u159 u160 u161 u162 u163 u164 u165 u166 u167 u168 u169 u170 u171 u172 u173 u174 u175 u176 u177 u178 u179 u180 u181 u182 u183 u184 u185 u186 u187 u188 u189 u190 u191 u192 u193 u194 u195 u196 u197 u198 u199 u200 u201 u202 u203 u204 u205 u206 u207 u208 u209 u210 u211 u212 u213 u214 u215 u216 u217 u218 u219 u220 u221 u222 u223 u224 u225 u226 u227 u228 u229 u230 u231 u232 u233 u234 u235 u236 u237 u238 u239 u240 u241 u242 u243 u244 u245 u246 u247 u248 u249 u250 u251 u252 u253 u254 u255 u256 u257 u258 u259 u260 u261 u262 u263 u264 u265 u266 u267 u268 u269 u270 u271 u272 u273 u274 u275 u276 u277 u278 u279 u280 : Value) :
    Code.wp Tryz.prog (rdL 0) (Exit.then K Q) ⟨#[u0, u1, .pointer (some ⟨s0, 0, none⟩), u3, u4, .slice (some ⟨b1, 0, none⟩) 4 4, .pointer (some ⟨b2, 0, none⟩), .slice al nl cl, .int .i64 last, .int .i64 (k : Int), u10, u11, u12, u13, u14, u15, u16, u17, u18, u19, u20, u21, u22, u23, u24, u25, u26, u27, u28, u29, u30, u31, u32, u33, u34, u35, u36, u37, u38, u39, u40, u41, u42, u43, u44, u45, u46, u47, u48, u49, u50, u51, u52, u53, u54, u55, u56, u57, u58, u59, u60, u61, u62, u63, u64, u65, u66, u67, u68, u69, u70, u71, u72, u73, u74, u75, u76, u77, u78, u79, u80, u81, u82, u83, u84, u85, u86, u87, u88, u89, u90, u91, u92, u93, u94, u95, u96, u97, u98, u99, u100, u101, u102, u103, u104, u105, u106, u107, u108, u109, u110, u111, u112, u113, u114, u115, u116, u117, u118, u119, u120, u121, u122, u123, u124, u125, u126, u127, u128, u129, u130, u131, u132, u133, u134, u135, u136, u137, u138, u139, u140, u141, u142, u143, u144, u145, u146, u147, u148, u149, u150, u151, u152, u153, u154, u155, u156, u157, u158, u159, u160, u161, u162, u163, u164, u165, u166, u167, u168, u169, u170, u171, u172, u173, u174, u175, u176, u177, u178, u179, u180, u181, u182, u183, u184, u185, u186, u187, u188, u189, u190, u191, u192, u193, u194, u195, u196, u197, u198, u199, u200, u201, u202, u203, u204, u205, u206, u207, u208, u209, u210, u211, u212, u213, u214, u215, u216, u217, u218, u219, u220, u221, u222, u223, u224, u225, u226, u227, u228, u229, u230, u231, u232, u233, u234, u235, u236, u237, u238, u239, u240, u241, u242, u243, u244, u245, u246, u247, u248, u249, u250, u251, u252, u253, u254, u255, u256, u257, u258, u259, u260, u261, u262, u263, u264, u265, u266, u267, u268, u269, u270, u271, u272, u273, u274, u275, u276, u277, u278, u279, u280], []⟩ wr := by
  obtain ⟨ab, cb, evb⟩ := own_slice hS.ob
  obtain ⟨ak, ck, evk⟩ := own_slice hS.ok
  subst evb evk
  have hb : ∃ b o c, Value.slice al nl cl = .slice (some ⟨b, o, none⟩) nl c ∧ b < wr.heap.size ∧ wr.cell? ⟨b, o + k, none⟩ = some (.string (bs y)) := by
    rcases own_isS hS.ol with ⟨ao, c, e, e2, _⟩ | ⟨b, o, c, e, h1, h2, h3, h4⟩
    · rw [e2] at hy; cases hy
    · rw [hnl]; rw [hnl] at e; exact ⟨b, o, c, e, h3, h4 k y hy⟩
  obtain ⟨bl, ol, cl', e1, hbl, cy⟩ := hb
  injection e1 with e1 _ e2
  subst e1 e2
  have hki : (k : Int) < (nl : Int) := by have := (List.getElem?_eq_some_iff.1 hy).1; omega
  have cC := fun W => rcut_any 32 y W hyl
  rw [show (((32 : UInt8).toNat : Nat) : Int) = 32 from rfl, cutR_eq, hW] at cC
  have HS : Hid (RdS s0 w L B (.slice ak L.length ck) (.slice ab B.length cb) (.slice (some ⟨bl, ol, none⟩) nl cl) ls wr) := hS
  have hkn : (k : Int) ≤ 10000001 := by have := (List.getElem?_eq_some_iff.1 hy).1; omega
  have HX : Hid (xs.length ≤ 10000000 ∧ ∀ x ∈ x0 :: xs, x.length ≤ 10000000) := by
    have := pcs_many 32 y
    rw [hW] at this
    simp at this
    exact ⟨by omega, fun x hx => Nat.le_trans (pcs_le 32 y x (by rw [hW]; exact hx)) hyl⟩
  have HY : Hid (b1 = s0 + 1 ∧ b2 = s0 + 2 ∧ s0 ≤ w.heap.size) := ⟨hb1, hb2, hs⟩
  have HLB : Hid (L.length ≤ k ∧ B.length ≤ k ∧ k ≤ 10000001) := ⟨hLn, hBn, by omega⟩
  clear hS hy hyl hlm hW hnl hb1 hb2 hs hLn hBn
  conv => arg 2; whnf
  go_wp2_with (first | (go_at_call 30; refine (cC _).mono ?_; rintro e W1 ⟨v, rfl, hv, hB1⟩; obtain ⟨av, cv, rfl⟩ := own_slice hv; refine Hid.out ?_))
  refine Lib.hid ?_
  have hv' : ∃ b o, av = some ⟨b, o, none⟩ ∧ b < W1.heap.size ∧ LiesS W1 b o (x0 :: xs) := by
    rcases own_isS hv with ⟨ao, c, e, e2, _⟩ | ⟨b, o, c, e, h1, h2, h3, h4⟩
    · cases e2
    · injection e with e _ _; exact ⟨b, o, e, h3, h4⟩
  obtain ⟨bw, ow, rfl, hbw, hWL⟩ := hv'
  have HW1 : Hid (RdS s0 w L B (.slice ak L.length ck) (.slice ab B.length cb) (.slice (some ⟨bl, ol, none⟩) nl cl) ls W1 ∧ LiesS W1 bw ow (x0 :: xs) ∧ bw < W1.heap.size) := ⟨HS.out.below HY.out.2.2 hB1, hWL, hbw⟩
  have w0 : W1.cell? ⟨bw, ow, none⟩ = some (.string (bs x0)) := hWL 0 x0 rfl
  have g2 := HW1.out.1.r2
  rw [← HY.out.2.1] at g2
  have gk := cellB (i := 0) g2 rfl
  have gb := cellB (i := 1) g2 rfl
  have g0 := cellB (i := 0) HW1.out.1.r0 rfl
  have g1 := cellB (i := 1) HW1.out.1.r0 rfl
  have f0 := frzB (i := 0) HW1.out.1.r0
  have f1 := frzB (i := 1) HW1.out.1.r0
  clear hv hWL hbw g2 hbl cy hB1 cC
  rcases hp with ⟨p1, p2⟩ | ⟨p1, p2, p3⟩ | ⟨p1, p2, p3⟩ | ⟨p1, p2, p3, p4⟩ | ⟨p1, p2, p3, x1, r, p4, p5⟩
  · clear gk gb
    go_wp2
    exact hret.out _ _ rfl rfl rfl rfl (ret_set HW1.out.1.r0 HW1.out.1.bl).1 (ret_set HW1.out.1.r0 HW1.out.1.bl).2
  · have p3' : (((xs.length : Int) + 1) == 6) = false := by simp; omega
    have hxl : (xs.length : Int) ≤ 10000000 := by have := HX.out.1; omega
    clear gk gb
    go_wp2
    exact hret.out _ _ rfl rfl rfl rfl (ret_set HW1.out.1.r0 HW1.out.1.bl).1 (ret_set HW1.out.1.r0 HW1.out.1.bl).2
  · clear gk
    go_wp2
    exact hret.out _ _ rfl rfl rfl rfl (ret_set HW1.out.1.r0 HW1.out.1.bl).1 (ret_set HW1.out.1.r0 HW1.out.1.bl).2
  · subst p4
    clear gk
    go_wp2
    exact hret.out _ _ rfl rfl rfl rfl (ret_set HW1.out.1.r0 HW1.out.1.bl).1 (ret_set HW1.out.1.r0 HW1.out.1.bl).2
  · subst p4
    have w1 : W1.cell? ⟨bw, ow + 1, none⟩ = some (.string (bs x1)) := HW1.out.2.1 1 x1 rfl
    have cW := fun W => rword_any x1 W (by have := HX.out.2 x1 (by simp); unfold maxLen; omega)
    have hrl : (r.length : Int) ≤ 10000000 := by have := HX.out.1; simp at this; omega
    have hr2 : (2 : Int) ≤ (r.length : Int) + 1 + 1 := by omega
    rw [p5] at cW
    clear gk p5
    go_wp2_with (first | (go_at_call 31; refine (cW _).mono ?_; rintro e w' ⟨rfl, rfl⟩))
    exact hret.out _ _ rfl rfl rfl rfl (ret_set HW1.out.1.r0 HW1.out.1.bl).1 (ret_set HW1.out.1.r0 HW1.out.1.bl).2
end Go.Proofs.YtgjlonilbhlneaaGreatDoor
