import Derived.Test.YtahamkajkkkjdaaGreatDoorM33
import Derived.Test.YtahamkajkkkjdaaGreatDoorM32
import Derived.Test.YtahamkajkkkjdaaGreatDoorM03
namespace Go.Proofs.YtahamkajkkkjdaaGreatDoor
open Go.RowKit
set_option linter.unusedVariables false
set_option linter.unusedSimpArgs false
section
variable {w0 u0 : World} {b : Nat} {l : List UInt8}
theorem pw_op {g off : Nat} {o : Opx} (hc : AtC w0 g off o.cells) (hR : IsR w0 o.nd.rv o.nd.rc) (hi : OpI o) (hl : (l ++ encO o).length ≤ 1099511627776) :
    ∀ W, Pw w0 u0 b l W → Calls Tryz.prog 56 #[.iface 100 (wpt b), .pointer (some ⟨g, off, none⟩)] W (Ret (Pw w0 u0 b (l ++ encO o))) := fun W h => by
  have h1 := hi.w1
  have hw : I64 o.wh := ⟨by omega, by omega⟩
  have hll : l.length ≤ 1099511627776 := by rw [List.length_append] at hl; omega
  have hl2 := hl
  rw [List.length_append] at hl2
  have n0 := pw_num (u0 := u0) (b := b) (l := l) (hc 0 _ rfl) hw hll
  have hnl : (l ++ encN o.wh).length ≤ 1099511627776 := by
    unfold encO at hl2
    rw [List.length_append] at hl2 ⊢
    omega
  have hsub : AtC w0 g (off + 1) o.nd.cells := hc.sub 1 _ (fun i u hu => by
    match i, hu with
    | 0, hu => exact hu
    | 1, hu => exact hu
    | 2, hu => exact hu)
  have hpr : AtC w0 g (off + 4) o.pr.cells := hc.sub 4 _ (fun i u hu => by
    match i, hu with
    | 0, hu => exact hu
    | 1, hu => exact hu
    | 2, hu => exact hu
    | 3, hu => exact hu)
  have hte : AtC w0 g (off + 8) o.te.cells := hc.sub 8 _ (fun i u hu => by
    match i, hu with
    | 0, hu => exact hu
    | 1, hu => exact hu
    | 2, hu => exact hu)
  have hk : ∀ k : Int, o.wh = k → ∀ W, Pw w0 u0 b (l ++ encN o.wh) W → W.cell? ⟨g, off, none⟩ = some (.int .i64 k) := fun k e W q => by rw [← e]; exact q.cell (hc 0 _ rfl)
  have hsx : ∀ z : List UInt8, encO o = encN o.wh ++ z → (l ++ encN o.wh ++ z).length ≤ 1099511627776 := fun z e => by rw [List.append_assoc, ← e]; exact hl
  have h6 : o.wh = 1 ∨ o.wh = 2 ∨ o.wh = 3 ∨ o.wh = 4 ∨ o.wh = 5 ∨ o.wh = 6 := by omega
  rcases h6 with e | e | e | e | e | e
  · have ez : encO o = encN o.wh ++ encNd o.nd := by unfold encO; rw [if_pos e]
    have c := op1_walk fmW (p := ⟨b, 0, none⟩) (P0 := Pw w0 u0 b l) h n0 (pw_node hsub hR (hi.nd e) (hsx _ ez)) (hk 1 e)
    exact pret_eq (by rw [ez, List.append_assoc]) c
  · have ez : encO o = encN o.wh ++ encN o.nd.id := by unfold encO; rw [if_neg (by omega), if_pos e]
    have c := op2_walk fmW (p := ⟨b, 0, none⟩) (P0 := Pw w0 u0 b l) h n0 (pw_num (hsub 0 _ rfl) (hi.id (by omega)) hnl) (hk 2 e)
    exact pret_eq (by rw [ez, List.append_assoc]) c
  · have ez : encO o = encN o.wh ++ (encN o.nd.id ++ encP o.pr) := by unfold encO; rw [if_neg (by omega), if_neg (by omega), if_pos e]
    have hx := hsx _ ez
    rw [← List.append_assoc] at hx
    have c := op3_walk fmW (p := ⟨b, 0, none⟩) (P0 := Pw w0 u0 b l) h n0 (pw_num (hsub 0 _ rfl) (hi.id (by omega)) hnl) (pw_prop hpr (hi.pr e) hx) (hk 3 e)
    exact pret_eq (by rw [ez]; simp) c
  · have ez : encO o = encN o.wh ++ (encN o.nd.id ++ encT o.pr.nm.data.toList) := by unfold encO; rw [if_neg (by omega), if_neg (by omega), if_neg (by omega), if_pos e]
    have hx := hsx _ ez
    have hy : (encT o.pr.nm.data.toList).length = (encN o.pr.nm.data.toList.length).length + o.pr.nm.data.toList.length := by unfold encT; rw [List.length_append]
    simp only [List.length_append] at hx
    have c := op4_walk fmW (p := ⟨b, 0, none⟩) (P0 := Pw w0 u0 b l) h n0 (pw_num (hsub 0 _ rfl) (hi.id (by omega)) hnl) (pw_text (hpr 0 _ rfl) (by simp only [List.length_append]; omega)) (hk 4 e)
    exact pret_eq (by rw [ez]; simp) c
  · have ez : encO o = encN o.wh ++ encTe o.te := by unfold encO; rw [if_neg (by omega), if_neg (by omega), if_neg (by omega), if_neg (by omega)]
    have c := op5_walk fmW (p := ⟨b, 0, none⟩) (P0 := Pw w0 u0 b l) h n0 (pw_tie hte (hi.te (by omega)) (hsx _ ez)) (hk 5 e)
    exact pret_eq (by rw [ez, List.append_assoc]) c
  · have ez : encO o = encN o.wh ++ encTe o.te := by unfold encO; rw [if_neg (by omega), if_neg (by omega), if_neg (by omega), if_neg (by omega)]
    have c := op6_walk fmW (p := ⟨b, 0, none⟩) (P0 := Pw w0 u0 b l) h n0 (pw_tie hte (hi.te (by omega)) (hsx _ ez)) (hk 6 e)
    exact pret_eq (by rw [ez, List.append_assoc]) c
theorem pw_ops {g off : Nat} {v : Value} {L : List Opx} (hv : w0.cell? ⟨g, off, none⟩ = some v) (hR : IsO w0 v L) (hi : ∀ o ∈ L, OpI o) (hl : (l ++ encL encO L).length ≤ 1099511627776) :
    ∀ W, Pw w0 u0 b l W → Calls Tryz.prog 55 #[.iface 100 (wpt b), .pointer (some ⟨g, off, none⟩), .func (.func 56) #[] #[]] W (Ret (Pw w0 u0 b (l ++ encL encO L))) := fun W h => by
  obtain ⟨ao, cp, rfl, _, hc⟩ := hR
  have hn := encL_ge encO encO_pos L
  have hl' := hl
  unfold encL at hl'
  simp only [List.length_append] at hl' hl
  obtain ⟨eb, eo, ha, hLs⟩ : ∃ eb eo, (0 < L.length → ao = some ⟨eb, eo, none⟩) ∧ (0 < L.length → LiesO w0 eb eo L) := by
    rcases hc with rfl | ⟨eb, eo, e, _, hL⟩
    · exact ⟨0, 0, fun h => absurd h (by simp), fun h => absurd h (by simp)⟩
    · exact ⟨eb, eo, fun _ => e, fun _ => hL⟩
  have c := lsO_walk fmW (p := ⟨b, 0, none⟩) (g := g) (off := off) (n := L.length) (cp := cp) (eb := eb) (eo := eo) (ao := ao) (w := W) (Q := fun k => Pw w0 u0 b (l ++ encN L.length ++ (L.take k).flatMap encO)) (by omega) ha (h.cell hv) (pw_len h L.length (by omega) (by omega))
    (fun w' q => ⟨q.2, q.1.cell hv⟩) (fun w' q hq => by simpa using hq.1.drewN q) (fun k w' q => q.cell hv) (fun k hk w' q => by
      obtain ⟨x, hx⟩ : ∃ x, L[k]? = some x := ⟨L[k], by simp [hk]⟩
      have hle2 := encL_le encO L k x hx
      obtain ⟨c0, c1⟩ := hLs (by omega) k x hx
      have c := pw_op (l := l ++ encN L.length ++ (L.take k).flatMap encO) (b := b) (w0 := w0) (u0 := u0) (g := eb) (off := eo + k * 11) (o := x) c0 c1 (hi x (List.mem_of_getElem? hx)) (by simp only [List.length_append]; omega) w' q
      refine pret_eq ?_ c
      rw [encL_step encO L k x hx, List.append_assoc])
  refine pret_eq ?_ c
  unfold encL
  rw [List.take_length, List.append_assoc]
theorem pw_ent0 {g off : Nat} {v : Value} {L : List Opx} (h0 : w0.cell? ⟨g, off, none⟩ = some (.bool false)) (hv : w0.cell? ⟨g, off + 1, none⟩ = some v) (hR : IsO w0 v L) (hi : ∀ o ∈ L, OpI o) (hl : (l ++ encE0 L).length ≤ 1099511627776) :
    ∀ W, Pw w0 u0 b l W → Calls Tryz.prog 31 #[.pointer (some ⟨g, off, none⟩), .iface 100 (wpt b)] W (Ret (Pw w0 u0 b (l ++ encE0 L))) := fun W h => by
  have hl2 : ((l ++ encB false) ++ encL encO L).length ≤ 1099511627776 := by unfold encE0 at hl; rw [List.append_assoc]; exact hl
  rw [List.length_append] at hl
  have c := ent0_walk fmW (p := ⟨b, 0, none⟩) (P0 := Pw w0 u0 b l) h (pw_tru h0 (by omega)) (pw_ops hv hR hi hl2) (fun W q => q.cell h0)
  exact pret_eq (by unfold encE0; rw [List.append_assoc]) c
end
set_option maxHeartbeats 8000000 in
set_option maxRecDepth 100000 in
theorem written_any {w : World} {cs : Array Value} (body : List UInt8) (hn : 1 ≤ body.length) (hlb : (recL body).length ≤ 1099511627776) (htab : Lib.TabBelow Tryz.prog w.heap.size w "internal/strconv.uint64pow10" .u64 Lib.pow10Tab)
    (hparts : ∀ (u0 : World) b W, Pw (w.alloc (.cells cs 75)) u0 b [] W → Calls Tryz.prog 31 #[.pointer (some ⟨w.heap.size, 0, none⟩), .iface 100 (wpt b)] W (Ret (Pw (w.alloc (.cells cs 75)) u0 b body))) :
    Calls Tryz.prog 21 #[.agg cs] w fun e w' => ∃ v, e = .returned v ∧ w'.ownsRow w.heap.size 5 1 v (recL body).length (Lib.byteCells (recL body)) ∧ Below w.heap.size w w' := by
  obtain ⟨w0, hw0⟩ : ∃ w0, w0 = w.alloc (.cells cs 75) := ⟨_, rfl⟩
  have hz : w0.heap.size = w.heap.size + 1 := by rw [hw0]; simp
  have hb0 : Below w.heap.size w w0 := by rw [hw0]; exact bA (Below.refl _ _) (Nat.le_refl _) _
  have hPw : ∀ u0 b W, w0.heap.size ≤ b → Below w0.heap.size w0 W → Wf w0.heap.size b u0 W → W.heap[b]? = some (.cells #[.slice none 0 0] 98 (0, 0)) → Pw w0 u0 b [] W := fun u0 b W hb hB hu hh =>
    ⟨⟨hb, ⟨_, hh, World.ownsRow_nil _ _ _ _⟩, fun w' hw' => htab w' ((hb0.trans (hB.mono hb0.size)).trans (hw'.mono hb0.size))⟩, .of_below hB (Nat.le_refl _), hu⟩
  obtain ⟨w2, hw2⟩ : ∃ w2, w2 = (w0.alloc (.cells #[.slice none 0 0] 98)).alloc (.cells #[.slice none 0 0] 98) := ⟨_, rfl⟩
  have hB2 : Below w0.heap.size w0 w2 := by rw [hw2]; exact bA (bA (Below.refl _ _) (Nat.le_refl _) _) (Nat.le_refl _) _
  have k1 : w2.heap[w0.heap.size]? = some (.cells #[.slice none 0 0] 98 (0, 0)) := by
    rw [hw2, Below.heap_alloc _ _ _ (by simp)]
    exact heap_alloc_new w0 _
  have k2 : w2.heap[w0.heap.size + 1]? = some (.cells #[.slice none 0 0] 98 (0, 0)) := by
    rw [hw2]
    have := heap_alloc_new (w0.alloc (.cells #[.slice none 0 0] 98)) (.cells #[.slice none 0 0] 98)
    rwa [World.size_alloc] at this
  rw [← hw0] at hparts
  have cP := hparts w2 w0.heap.size w2 (hPw _ _ _ (Nat.le_refl _) hB2 (.refl _ _ _) k1)
  rw [hz] at cP
  have HK : Hid (w2.heap[w.heap.size + 1 + 1]? = some (.cells #[.slice none 0 0] 98 (0, 0))) := by show _ = _; rw [← hz]; exact k2
  have HP := Lib.hid hPw
  have H0 := Lib.hid (And.intro hz (And.intro hb0 hB2))
  have HW := Lib.hid (And.intro hw0 hw2)
  clear hPw hb0 hB2 k1 k2 hparts htab hz
  subst hw2
  subst hw0
  go_enter Tryz.func21, Tryz.ntmps21
  go_wp2_with (first | (go_at_call 31; refine cP.mono ?_; rintro e W1 ⟨rfl, hq⟩; refine Hid.out ?_))
  refine Lib.hid ?_
  obtain ⟨hz, hb0, hB2⟩ := H0.out
  obtain ⟨sv, hb1, hown⟩ := hq.1.row
  obtain ⟨g, cp, rfl⟩ : ∃ g cp, sv = .slice (some ⟨g, 0, none⟩) body.length cp := by
    rcases hown.2 with ⟨_, h0⟩ | ⟨g, cap, cur, rfl, _⟩
    · omega
    · exact ⟨g, cap, rfl⟩
  have hcell := hown.cells (g := g) rfl
  have hcv := Go.run_convert_bytes_back (P := Tryz.prog) W1 70 9 5 ⟨g, 0, none⟩ cp body Tryz.underlying70 Tryz.underlying5 Tryz.underlying9 (fun j hj => hcell j _ (by simp [Lib.byteCells, hj]))
  have hB1 : Below w.heap.size w W1 := hb0.trans (hq.2.1.below.mono (by omega))
  have kr := hq.2.2.oth _ _ (by omega) HK.out
  have y0 : W1.cell? ⟨w.heap.size + 1, 0, none⟩ = some (.slice (some ⟨g, 0, none⟩) body.length cp) := cell_at hb1 rfl
  obtain ⟨B, hBe⟩ : ∃ B, B = (w.alloc (.cells cs 75)).heap.size := ⟨_, rfl⟩
  have hBz : B = w.heap.size + 1 := by omega
  have cT : Calls Tryz.prog 32 #[.pointer (some ⟨w.heap.size + 1 + 1, 0, none⟩), .pointer (some ⟨W1.heap.size, 0, none⟩)] (W1.alloc (.cells #[.string ⟨body.toArray⟩] 9)) fun e w' => e = .returned (.tuple #[]) ∧ ∃ v, w'.cell? ⟨w.heap.size + 1 + 1, 0, none⟩ = some v ∧ w'.ownsRow w.heap.size 5 1 v (recL body).length (Lib.byteCells (recL body)) ∧ Below w.heap.size w w' := by
    have hbl : (⟨body.toArray⟩ : ByteArray).data.toList = body := by simp
    have hWr : Wr W1 B (w.heap.size + 1 + 1) [] := ⟨by omega, ⟨_, kr, World.ownsRow_nil _ _ _ _⟩, by rw [hBe]; exact hq.1.tab⟩
    have hb2 := heap_alloc_new W1 (.cells #[.string ⟨body.toArray⟩] 9)
    refine (wtext_any (hWr.alloc (.cells #[.string ⟨body.toArray⟩] 9)) (a := ⟨W1.heap.size, 0, none⟩) (x := ⟨body.toArray⟩) (fun w' hf => cell_at ((hf.kt 9 (by decide) (by decide)).2 _ _ hb2) rfl) (by rw [hbl]; unfold recL encT at hlb; simp only [List.length_append] at hlb; simp; omega)).mono fun e w' q => ⟨q.1, ?_⟩
    rw [hbl, List.nil_append] at q
    obtain ⟨v, h1, h2⟩ := q.2.1.row
    exact ⟨v, cell_at h1 rfl, own_base h2 (by omega), (hB1.alloc hB1.size _).trans (q.2.2.below.mono (by omega))⟩
  clear hq hb1 hown hcell hz hb0 hB2 H0 HP HK HW hB1 kr hBe hBz cP
  go_wp2_with (first | (go_at_call 32; refine cT.mono ?_; rintro e W2 ⟨rfl, v, hv, hO, hB⟩))
  go_ret
  exact ⟨_, rfl, hO, hB⟩
structure En0 (cs : Array Value) (vl : Value) : Prop where
  c0 : cs[0]? = some (.bool false)
  c1 : cs[1]? = some vl
  sz : cs.size = 20
theorem wr_ops {w : World} {cs : Array Value} {vl : Value} {O : List Opx} (hc : En0 cs vl) (hO : IsO w vl O) (hi : ∀ o ∈ O, OpI o) (hl : (recL (encE0 O)).length ≤ 1099511627776) (hE : Env w) :
    Calls Tryz.prog 21 #[.agg cs] w fun e w' => ∃ v, e = .returned v ∧ w'.ownsRow w.heap.size 5 1 v (recL (encE0 O)).length (Lib.byteCells (recL (encE0 O))) ∧ Below w.heap.size w w' := by
  have hb := heap_alloc_new w (.cells cs 75)
  have hB := bA (Below.refl w.heap.size w) (Nat.le_refl _) (.cells cs 75)
  have hbl : (encE0 O).length ≤ 1099511627776 := by unfold recL encT at hl; rw [List.length_append] at hl; omega
  exact written_any (encE0 O) (by
    unfold encE0 encB
    rw [List.length_append]
    have := encN_pos (if false = true then 1 else 0)
    omega) hl (fun w' hw' => hE.tab w' (hw'.mono hE.sz)) (fun u0 b W q => by
    have := pw_ent0 (l := []) (L := O) (cell_at hb hc.c0) (cell_at hb hc.c1) (hO.on hB) hi (by rw [List.nil_append]; exact hbl) W q
    rwa [List.nil_append] at this)
set_option maxHeartbeats 8000000 in
set_option maxRecDepth 100000 in
theorem with_any0 {w : World} {vk vb vn vt vl : Value} {cs : Array Value} {L : List Kd} {B : List Bd} {N : List Nd} {T : List Te} {O : List Opx} (hc : En0 cs vl) (hs : IsSc w (.agg #[vk, vb]) L B) (hg : IsG w (.agg #[vn, vt]) N T) (hO : IsO w vl O) (zO : ∀ o ∈ O, OpSz o) (lO : O.length ≤ 40) (he : gErr N T = 0) (hse : (sErr L B).2 = 0) :
    Calls Tryz.prog 20 #[.agg #[vk, vb, vn, vt], .agg cs] w (PutP w vk vb L B O (cN N) T) := by
  obtain ⟨w3, hw3⟩ : ∃ w3, w3 = ((w.alloc (.cells #[vk, vb, vn, vt] 69)).alloc (.cells cs 75)).alloc (.cells #[.slice none 0 0, .slice none 0 0, .slice none 0 0, .slice none 0 0] 69) := ⟨_, rfl⟩
  have hB3 : Below w.heap.size w w3 := by rw [hw3]; exact bA (bA (bA (Below.refl _ _) (Nat.le_refl _) _) (Nat.le_refl _) _) (Nat.le_refl _) _
  have hz3 : w3.heap.size = w.heap.size + 3 := by rw [hw3]; simp
  have k0 : w3.heap[w.heap.size]? = some (.cells #[vk, vb, vn, vt] 69 (0, 0)) := by
    rw [hw3, Below.heap_alloc _ _ _ (by simp; omega), Below.heap_alloc _ _ _ (by simp)]; exact heap_alloc_new w _
  have k1 : w3.heap[w.heap.size + 1]? = some (.cells cs 75 (0, 0)) := by
    rw [hw3, Below.heap_alloc _ _ _ (by simp)]
    have := heap_alloc_new (w.alloc (.cells #[vk, vb, vn, vt] 69)) (.cells cs 75)
    rwa [World.size_alloc] at this
  have k2 : w3.heap[w.heap.size + 2]? = some (.cells #[.slice none 0 0, .slice none 0 0, .slice none 0 0, .slice none 0 0] 69 (0, 0)) := by
    rw [hw3]
    have := heap_alloc_new ((w.alloc (.cells #[vk, vb, vn, vt] 69)).alloc (.cells cs 75)) (.cells #[.slice none 0 0, .slice none 0 0, .slice none 0 0, .slice none 0 0] 69)
    rwa [World.size_alloc, World.size_alloc] at this
  have cP := lput_any (hs.on hB3) (hg.on hB3) (hO.on hB3) zO lO he hse
  have c0 : w3.cell? ⟨w.heap.size + 1, 0, none⟩ = some (.bool false) := cell_at k1 hc.c0
  have c1 : w3.cell? ⟨w.heap.size + 1, 1, none⟩ = some vl := cell_at k1 hc.c1
  obtain ⟨vk', vb', e1, hK, _, _, hb, _⟩ := id hs
  injection e1 with e1
  simp only [Array.mk.injEq, List.cons.injEq, and_true] at e1
  obtain ⟨rfl, rfl⟩ := e1
  obtain ⟨ak, ck, rfl, _⟩ := hK.sln
  obtain ⟨ab, cb, rfl, _⟩ := hb.sln
  have d0 : w3.cell? ⟨w.heap.size, 0, none⟩ = some (.slice ak L.length ck) := cell_at k0 rfl
  have d1 : w3.cell? ⟨w.heap.size, 1, none⟩ = some (.slice ab B.length cb) := cell_at k0 rfl
  have d2 : w3.cell? ⟨w.heap.size, 2, none⟩ = some vn := cell_at k0 rfl
  have d3 : w3.cell? ⟨w.heap.size, 3, none⟩ = some vt := cell_at k0 rfl
  have HF : Hid (∀ W1, Below w3.heap.size w3 W1 → W1.heap[w.heap.size + 2]? = some (.cells #[.slice none 0 0, .slice none 0 0, .slice none 0 0, .slice none 0 0] 69 (0, 0)) ∧ Below w.heap.size w W1) := fun W1 h => ⟨(h.block _ (by omega)).trans k2, hB3.trans (h.mono (by omega))⟩
  by_cases h0 : putE L B O (cN N) T = 0
  · have cY : Calls Tryz.prog 30 #[.agg #[.slice ak L.length ck, .slice ab B.length cb, vn, vt], vl] w3 fun e w' => ∃ a1 n1 c1 a2 n2 c2 M, e = .returned (.tuple #[.agg #[.slice ak L.length ck, .slice ab B.length cb, .slice a1 n1 c1, .slice a2 n2 c2], .nilIface]) ∧ (cN M = (opS.res O (cN N) T).1 ∧ OwnNs w' w.heap.size (.slice a1 n1 c1) M ∧ OwnTs w' w.heap.size (.slice a2 n2 c2) (opS.res O (cN N) T).2 ∧ gErr M (opS.res O (cN N) T).2 = 0) ∧ Below w3.heap.size w3 w' := by
      refine cP.mono ?_
      rintro e w' ⟨hB, h1, _⟩
      obtain ⟨un, ut, M, rfl, q1, q2, q3, q4⟩ := h1 h0
      obtain ⟨a1, c1, rfl⟩ := own_slice q2.1
      obtain ⟨a2, c2, rfl⟩ := own_slice q3
      exact ⟨a1, _, c1, a2, _, c2, M, rfl, ⟨q1, ownNs_b q2 hB3.size, own_base q3 hB3.size, q4⟩, hB⟩
    have H0 := Lib.hid h0
    clear hs hg hO zO lO he hse hK hb cP k0 k1 k2 hB3 hz3 h0 hc
    subst hw3
    go_enter Tryz.func20, Tryz.ntmps20
    go_wp2_with (first
      | (go_at_call 30; refine cY.mono ?_; rintro e W1 ⟨a1, n1, c1, a2, n2, c2, M, rfl, hq, hB1⟩; obtain ⟨y2, y3⟩ := HF.out W1 hB1; have x0 : W1.cell? ⟨w.heap.size + 2, 0, none⟩ = some (.slice none 0 0) := cell_at y2 rfl; have f0 : W1.frozen? ⟨w.heap.size + 2, 0, none⟩ = false := frz_at y2; have x1 : W1.cell? ⟨w.heap.size + 2, 1, none⟩ = some (.slice none 0 0) := cell_at y2 rfl; have f1 : W1.frozen? ⟨w.heap.size + 2, 1, none⟩ = false := frz_at y2; have x2 : W1.cell? ⟨w.heap.size + 2, 2, none⟩ = some (.slice none 0 0) := cell_at y2 rfl; have f2 : W1.frozen? ⟨w.heap.size + 2, 2, none⟩ = false := frz_at y2; have x3 : W1.cell? ⟨w.heap.size + 2, 3, none⟩ = some (.slice none 0 0) := cell_at y2 rfl; have f3 : W1.frozen? ⟨w.heap.size + 2, 3, none⟩ = false := frz_at y2; have HW1 := Lib.hid (And.intro hq (And.intro y2 y3)); clear hq hB1 y2 y3)
      | fail)
    obtain ⟨⟨q1, q2, q3, q4⟩, y2, y3⟩ := HW1.out
    refine bodyPost_ret (v := .tuple #[.agg #[.slice ak L.length ck, .slice ab B.length cb, .slice a1 n1 c1, .slice a2 n2 c2], .nilIface]) (results_cell2 (p := 4) (u := 5) (ty := 69) rfl _ _ (w.heap.size + 2) 69 _ (0, 0) _ rfl (lset4_heap y2) Tryz.underlying69 rfl info69) rfl ?_
    have kk : ∀ t, t ≠ 69 → Kt t W1 (lset4 W1 (w.heap.size + 2) (.slice ak L.length ck) (.slice ab B.length cb) (.slice a1 n1 c1) (.slice a2 n2 c2)) := fun t ht => lset4_kt y2 (Ne.symm ht)
    exact ⟨(lset4_bx (l := []) (Bx.of_below y3 (Nat.le_refl _)) (.inr (by omega)) _ _ _ _).below (Nat.le_refl _) (fun _ h => by cases h), fun _ => ⟨.slice a1 n1 c1, .slice a2 n2 c2, M, rfl, q1, q2.kt (kk _ (by decide)) (kk _ (by decide)), q3.kt (kk _ (by decide)), q4⟩, fun h => absurd H0.out h⟩
  · obtain ⟨ev, hev⟩ : ∃ ev, ev = putE L B O (cN N) T := ⟨_, rfl⟩
    have cE : Calls Tryz.prog 30 #[.agg #[.slice ak L.length ck, .slice ab B.length cb, vn, vt], vl] w3 fun e w' => e = .returned (.tuple #[zS, .iface 76 (.int .i64 ev)]) ∧ Below w3.heap.size w3 w' := by
      refine cP.mono ?_
      rintro e w' ⟨hB, _, h1⟩
      exact ⟨by rw [hev]; exact h1 h0, hB⟩
    have H0 := Lib.hid (And.intro h0 hev)
    clear hs hg hO zO lO he hse hK hb cP k0 k1 k2 hB3 hz3 h0 hc hev
    subst hw3
    go_enter Tryz.func20, Tryz.ntmps20
    go_wp2_with (first
      | (go_at_call 30; refine cE.mono ?_; rintro e W1 ⟨rfl, hB1⟩; obtain ⟨y2, y3⟩ := HF.out W1 hB1; have x0 : W1.cell? ⟨w.heap.size + 2, 0, none⟩ = some (.slice none 0 0) := cell_at y2 rfl; have f0 : W1.frozen? ⟨w.heap.size + 2, 0, none⟩ = false := frz_at y2; have x1 : W1.cell? ⟨w.heap.size + 2, 1, none⟩ = some (.slice none 0 0) := cell_at y2 rfl; have f1 : W1.frozen? ⟨w.heap.size + 2, 1, none⟩ = false := frz_at y2; have x2 : W1.cell? ⟨w.heap.size + 2, 2, none⟩ = some (.slice none 0 0) := cell_at y2 rfl; have f2 : W1.frozen? ⟨w.heap.size + 2, 2, none⟩ = false := frz_at y2; have x3 : W1.cell? ⟨w.heap.size + 2, 3, none⟩ = some (.slice none 0 0) := cell_at y2 rfl; have f3 : W1.frozen? ⟨w.heap.size + 2, 3, none⟩ = false := frz_at y2; have HW1 := Lib.hid (And.intro y2 y3); clear hB1 y2 y3)
      | fail)
    obtain ⟨y2, y3⟩ := HW1.out
    obtain ⟨h0, hev⟩ := H0.out
    refine bodyPost_ret (v := .tuple #[zS, .iface 76 (.int .i64 ev)]) (results_cell2 (p := 4) (u := 5) (ty := 69) rfl _ _ (w.heap.size + 2) 69 _ (0, 0) _ rfl (lset4_heap y2) Tryz.underlying69 rfl info69) rfl ?_
    exact ⟨(lset4_bx (l := []) (Bx.of_below y3 (Nat.le_refl _)) (.inr (by omega)) _ _ _ _).below (Nat.le_refl _) (fun _ h => by cases h), fun h => absurd h h0, fun _ => by rw [hev]⟩
theorem fmR : Fm 119 284 285 286 where
  mn v W := by kernel_rfl
  mt v W := by kernel_rfl
  mb v W := by kernel_rfl
  nn p W := by kernel_rfl
  nt p W := by kernel_rfl
  nb p W := by kernel_rfl
  en := enters_of Tryz.func284 (by kernel_rfl) rfl
  et := enters_of Tryz.func285 (by kernel_rfl) rfl
  eb := enters_of Tryz.func286 (by kernel_rfl) rfl
def puts (L : List Value) (o : Nat) : List Value → List Value
  | [] => L
  | v :: r => puts (L.set o v) (o + 1) r
theorem set_mid (A m C : List Value) (i : Nat) (hi : i < m.length) (v : Value) : (A ++ m ++ C).set (A.length + i) v = A ++ m.set i v ++ C := by
  rw [List.append_assoc, List.set_append_right _ _ (by omega), Nat.add_sub_cancel_left, List.set_append_left _ _ hi, List.append_assoc]
theorem puts_mid : ∀ (vs A m C : List Value) (i : Nat), i + vs.length ≤ m.length → puts (A ++ m ++ C) (A.length + i) vs = A ++ puts m i vs ++ C
  | [], A, m, C, i, h => rfl
  | v :: r, A, m, C, i, h => by
    simp only [List.length_cons] at h
    rw [puts, set_mid A m C i (by omega), Nat.add_assoc, puts_mid r A (m.set i v) C (i + 1) (by rw [List.length_set]; omega)]
    rfl
theorem ba_eta (x : ByteArray) : (⟨x.data.toList.toArray⟩ : ByteArray) = x := by cases x; simp
theorem bx_mono {B B' : Nat} {l : List Nat} {w w' : World} (h : Bx B l w w') (hB : B' ≤ B) : Bx B' l w w' := ⟨h.os, h.tape, h.output, h.size, fun k hk hn => h.block k (Nat.lt_of_lt_of_le hk hB) hn⟩
theorem rs_trans {u0 W W' : World} {b t : Nat} {ty : TypeId} {r r' : List UInt8} {L L' : List Value} (h : Rs u0 b t ty r L W) (k : Rs W b t ty r' L' W') : Rs u0 b t ty r' L' W' :=
  ⟨k.rd, k.tg, h.fr.trans (bx_mono k.fr h.fr.size), k.env⟩
section
variable {u0 : World} {b t : Nat} {ty : TypeId} {L : List Value} {r : List UInt8}
theorem r_num (hT : Tg b t ty) {o : Nat} {n : Int} (hn : I64r n) (ho : o < L.length) (hl : (encN n ++ r).length ≤ 4294967280) : ∀ W, Rs u0 b t ty (encN n ++ r) L W → Calls Tryz.prog 284 #[.pointer (some ⟨b, 0, none⟩), .pointer (some ⟨t, o, none⟩)] W.drew (Ret (Rs u0 b t ty r (L.set o (.int .i64 n)))) := fun W h =>
  (rnum_any hT h.drew.env h.drew.rd h.drew.tg ho hn hl).mono fun e w' q => ⟨q.1, rs_trans h.drew q.2⟩
theorem r_tru (hT : Tg b t ty) {o : Nat} {x : Bool} (ho : o < L.length) (hl : (encB x ++ r).length ≤ 4294967280) : ∀ W, Rs u0 b t ty (encB x ++ r) L W → Calls Tryz.prog 286 #[.pointer (some ⟨b, 0, none⟩), .pointer (some ⟨t, o, none⟩)] W.drew (Ret (Rs u0 b t ty r (L.set o (.bool x)))) := fun W h =>
  (rtru_any hT h.drew.env h.drew.rd h.drew.tg ho hl).mono fun e w' q => ⟨q.1, rs_trans h.drew q.2⟩
theorem r_text0 (hT : Tg b t ty) {o : Nat} {x : List UInt8} (ho : o < L.length) (hl : (encT x ++ r).length ≤ 4294967280) : ∀ W, Rs u0 b t ty (encT x ++ r) L W → Calls Tryz.prog 285 #[.pointer (some ⟨b, 0, none⟩), .pointer (some ⟨t, o, none⟩)] W (Ret (Rs u0 b t ty r (L.set o (.string ⟨x.toArray⟩)))) := fun W h =>
  (rtext_any hT h.env h.rd h.tg ho hl).mono fun e w' q => ⟨q.1, rs_trans h q.2⟩
theorem r_text (hT : Tg b t ty) {o : Nat} {x : ByteArray} (ho : o < L.length) (hl : (encT x.data.toList ++ r).length ≤ 4294967280) : ∀ W, Rs u0 b t ty (encT x.data.toList ++ r) L W → Calls Tryz.prog 285 #[.pointer (some ⟨b, 0, none⟩), .pointer (some ⟨t, o, none⟩)] W.drew (Ret (Rs u0 b t ty r (L.set o (.string x)))) := fun W h => by
  have c := r_text0 (u0 := u0) hT ho hl W.drew h.drew
  rwa [ba_eta] at c
theorem r_val (hT : Tg b t ty) {o : Nat} {k n : Int} {x : ByteArray} (hk : I64r k) (hn : I64r n) (ho : o + 3 ≤ L.length) (hl : (encV k n x ++ r).length ≤ 4294967280) :
    ∀ W, Rs u0 b t ty (encV k n x ++ r) L W → Calls Tryz.prog 81 #[.iface 119 (.pointer (some ⟨b, 0, none⟩)), .pointer (some ⟨t, o, none⟩)] W (Ret (Rs u0 b t ty r (puts L o [.int .i64 k, .int .i64 n, .string x]))) := fun W h => by
  have e : encV k n x ++ r = encN k ++ (encN n ++ (encT x.data.toList ++ r)) := by unfold encV; simp
  rw [e] at h hl
  have h1 : (encN n ++ (encT x.data.toList ++ r)).length ≤ 4294967280 := by rw [List.length_append] at hl; omega
  have h2 : (encT x.data.toList ++ r).length ≤ 4294967280 := by rw [List.length_append] at h1; omega
  exact val_walk fmR (p := ⟨b, 0, none⟩) h (r_num hT hk (by omega) hl) (r_num hT hn (by rw [List.length_set]; omega) h1) (r_text hT (by rw [List.length_set, List.length_set]; omega) h2)
theorem r_prop (hT : Tg b t ty) {o : Nat} {p : Pr} (hi : PrI p) (ho : o + 4 ≤ L.length) (hl : (encP p ++ r).length ≤ 4294967280) :
    ∀ W, Rs u0 b t ty (encP p ++ r) L W → Calls Tryz.prog 84 #[.iface 119 (.pointer (some ⟨b, 0, none⟩)), .pointer (some ⟨t, o, none⟩)] W (Ret (Rs u0 b t ty r (puts L o p.cells))) := fun W h => by
  have e : encP p ++ r = encT p.nm.data.toList ++ (encV p.t p.n p.s ++ r) := by unfold encP; simp
  rw [e] at h hl
  have h1 : (encV p.t p.n p.s ++ r).length ≤ 4294967280 := by rw [List.length_append] at hl; omega
  exact prop_walk fmR (p := ⟨b, 0, none⟩) h (r_text hT (by omega) hl) (r_val hT hi.1 hi.2 (by rw [List.length_set]; omega) h1)
theorem r_tie (hT : Tg b t ty) {o : Nat} {x : Te} (hi : TeI x) (ho : o + 3 ≤ L.length) (hl : (encTe x ++ r).length ≤ 4294967280) :
    ∀ W, Rs u0 b t ty (encTe x ++ r) L W → Calls Tryz.prog 85 #[.iface 119 (.pointer (some ⟨b, 0, none⟩)), .pointer (some ⟨t, o, none⟩)] W (Ret (Rs u0 b t ty r (puts L o x.cells))) := fun W h => by
  have e : encTe x ++ r = encT x.bd.data.toList ++ (encN x.fr ++ (encN x.tt ++ r)) := by unfold encTe; simp
  rw [e] at h hl
  have h1 : (encN x.fr ++ (encN x.tt ++ r)).length ≤ 4294967280 := by rw [List.length_append] at hl; omega
  have h2 : (encN x.tt ++ r).length ≤ 4294967280 := by rw [List.length_append] at h1; omega
  exact tie_walk fmR (p := ⟨b, 0, none⟩) h (r_text hT (by omega) hl) (r_num hT hi.1 (by rw [List.length_set]; omega) h1) (r_num hT hi.2 (by rw [List.length_set, List.length_set]; omega) h2)
theorem r_len (hT : Tg b t ty) {W : World} {n : Nat} (hn : n ≤ 4294967280) (h : Rs u0 b t ty (encN n ++ r) L W) (hl : (encN n ++ r).length ≤ 4294967280) :
    Calls Tryz.prog 284 #[.pointer (some ⟨b, 0, none⟩), .pointer (some ⟨W.heap.size, 0, none⟩)] (W.alloc (.cells #[.int .i64 0] 3)) (Ret fun w' => Rs u0 b t ty r L w' ∧ w'.cell? ⟨W.heap.size, 0, none⟩ = some (.int .i64 (n : Int))) := by
  have hB := bA (Below.refl W.heap.size W) (Nat.le_refl _) (.cells #[.int .i64 0] 3)
  refine (rnum_any (w := W.alloc (.cells #[.int .i64 0] 3)) (t := W.heap.size) (o := 0) (ty := 3) (L := [.int .i64 0]) (n := (n : Int)) (r := r) ⟨by decide, by decide, hT.b7, h.env.sz⟩ (h.env.on (hB.mono h.env.sz)) (h.rd.on hB) (heap_alloc_new W _) (by decide) ⟨by omega, by omega⟩ hl).mono fun e w' q => ⟨q.1, ?_, cell_at q.2.tg rfl⟩
  exact rs_trans h (rs_up hB (Nat.le_refl _) q.2 h.tg (h.rd.ne h.tg hT.h121))
end
theorem made_flat (z : List Value) (hz : 0 < z.length) (n : Nat) : (madeCells z.toArray (n * z.length)).toList = (List.replicate n z).flatten := by
  induction n with
  | zero => simp [madeCells]
  | succ n ih =>
    have e : (madeCells z.toArray ((n + 1) * z.length)).toList = (madeCells z.toArray (n * z.length)).toList ++ z := by
      unfold madeCells
      simp only [Array.toList_map, Array.toList_range, List.size_toArray]
      rw [Nat.add_mul, Nat.one_mul, List.range_add, List.map_append, List.map_map]
      congr 1
      apply List.ext_getElem (by simp)
      intro i h1 h2
      simp only [List.length_map, List.length_range] at h1
      simp only [List.getElem_map, List.getElem_range, Function.comp]
      rw [Nat.mul_comm n, Nat.mul_add_mod, Nat.mod_eq_of_lt h2]
      simp [h2]
    rw [e, ih, List.replicate_succ', List.flatten_append]
    simp
end Go.Proofs.YtahamkajkkkjdaaGreatDoor
