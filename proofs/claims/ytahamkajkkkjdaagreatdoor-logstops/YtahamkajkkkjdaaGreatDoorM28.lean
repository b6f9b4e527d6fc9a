import Derived.Test.YtahamkajkkkjdaaGreatDoorM26
import Derived.Test.YtahamkajkkkjdaaGreatDoorM27
import Derived.Test.YtahamkajkkkjdaaGreatDoorM23
import Derived.Test.YtahamkajkkkjdaaGreatDoorM13
import Derived.Deep.RegionLaw
import Derived.Lib.Hide
import Derived.Shelf.Spec.SlicesGrow
import Derived.Deep.RegionWith
import Derived.Test.YtahamkajkkkjdaaGreatDoorM24
import Derived.Test.YtahamkajkkkjdaaGreatDoorM04
import Derived.Laws.Externs
namespace Go.Proofs.YtahamkajkkkjdaaGreatDoor
open Go.RowKit
set_option linter.unusedVariables false
set_option linter.unusedSimpArgs false
structure OGv (W : World) (base p : Nat) (vn vt : Value) (N : List Nd) (T : List Te) : Prop where
  hb : base ≤ p
  hp : W.heap[p]? = some (.cells #[vn, vt] 67 (0, 0))
  hN : OwnNs W base vn N
  hT : OwnTs W base vt T
theorem OGv.og {W : World} {base p : Nat} {vn vt : Value} {N : List Nd} {T : List Te} (h : OGv W base p vn vt N T) : OG W base p N T := ⟨vn, vt, h.hb, h.hp, h.hN, h.hT⟩
theorem OGv.pl {W : World} {base p : Nat} {vn vt : Value} {N : List Nd} {T : List Te} (h : OGv W base p vn vt N T) : p < W.heap.size := (Array.getElem?_eq_some_iff.1 h.hp).1
theorem OGv.on {W W' : World} {base p : Nat} {vn vt : Value} {N : List Nd} {T : List Te} (h : OGv W base p vn vt N T) (hB : Below W.heap.size W W') : OGv W' base p vn vt N T :=
  ⟨h.hb, (hB.block p h.pl).trans h.hp, h.hN.kt (.of_below hB) (.of_below hB), h.hT.kt (.of_below hB)⟩
theorem OGv.pN {W W' : World} {base p : Nat} {vn vt : Value} {N : List Nd} {T : List Te} (h : OGv W base p vn vt N T) (hg : W.grownBy W' vn.ownBlock) : W'.heap[p]? = some (.cells #[vn, vt] 67 (0, 0)) :=
  (hg.block p h.pl (fun e => row_apart h.hN.1 h.hp (by decide) e.symm)).trans h.hp
theorem OGv.pT {W W' : World} {base p : Nat} {vn vt : Value} {N : List Nd} {T : List Te} (h : OGv W base p vn vt N T) (hg : W.grownBy W' vt.ownBlock) : W'.heap[p]? = some (.cells #[vn, vt] 67 (0, 0)) :=
  (hg.block p h.pl (fun e => row_apart h.hT h.hp (by decide) e.symm)).trans h.hp
theorem OGv.nodes {W W' : World} {base p : Nat} {vn vt vn' : Value} {N N' : List Nd} {T : List Te} (h : OGv W base p vn vt N T) (hg : W.grownBy W' vn.ownBlock) (hN : OwnNs W' base vn' N') : OGv (W'.setCell ⟨p, 0, none⟩ vn') base p vn' vt N' T := by
  have e1 := h.pN hg
  have ty : Ty W' p 67 := ⟨_, e1⟩
  have k : ∀ t, 67 ≠ t → Kt t W' (W'.setCell ⟨p, 0, none⟩ vn') := fun t ht => (Kt.refl _ _).ty ty ht _ _
  exact ⟨h.hb, heap_setCell_same W' p 0 _ 67 vn' e1, hN.kt (k 40 (by decide)) (k 44 (by decide)), h.hT.kt ((Kt.of_own h.hN.1 (by decide) hg).trans (k 46 (by decide)))⟩
theorem OGv.ties {W W' : World} {base p : Nat} {vn vt vt' : Value} {N : List Nd} {T T' : List Te} (h : OGv W base p vn vt N T) (hg : W.grownBy W' vt.ownBlock) (hT : OwnTs W' base vt' T') : OGv (W'.setCell ⟨p, 1, none⟩ vt') base p vn vt' N T' := by
  have e1 := h.pT hg
  have ty : Ty W' p 67 := ⟨_, e1⟩
  have k : ∀ t, 67 ≠ t → Kt t W' (W'.setCell ⟨p, 1, none⟩ vt') := fun t ht => (Kt.refl _ _).ty ty ht _ _
  exact ⟨h.hb, heap_setCell_same W' p 1 _ 67 vt' e1, h.hN.kt ((Kt.of_own h.hT (by decide) hg).trans (k 40 (by decide))) ((Kt.of_own h.hT (by decide) hg).trans (k 44 (by decide))), hT.kt (k 46 (by decide))⟩
def ins (p : Pr) : List Pr → List Pr
  | [] => [p]
  | a :: r => if a.lt p = true then a :: ins p r else if (a.nm.toList == p.nm.toList) = true then p :: r else p :: a :: r
def cellsOf (L : List Pr) : List Value := L.flatMap Pr.cells
theorem ins_len (p : Pr) (L : List Pr) : L.length ≤ (ins p L).length ∧ (ins p L).length ≤ L.length + 1 := by
  induction L with
  | nil => simp [ins]
  | cons a r ih =>
    unfold ins
    split
    · simp; omega
    · split <;> simp
theorem Lies.drop {w : World} {b off : Nat} {L : List Pr} (h : Lies w b off L) (i : Nat) : Lies w b (off + i * 4) (L.drop i) := fun k p hp => by
  have := h (i + k) p (by simpa using hp)
  rw [show off + (i + k) * 4 = off + i * 4 + k * 4 by omega] at this
  exact this
def rsErr (p : Pr) (L : List Pr) : Int := if rErr L = 0 then (if rErr [p] = 0 then (if 8 < (ins p L).length then 4 else 0) else rErr [p]) else rErr L
end Go.Proofs.YtahamkajkkkjdaaGreatDoor
namespace Go.Proofs.YtahamkajkkkjdaaGreatDoor
open Go.RowKit Go.Shelf
set_option linter.unusedVariables false
set_option linter.unusedSimpArgs false
end Go.Proofs.YtahamkajkkkjdaaGreatDoor
namespace Go.Proofs.YtahamkajkkkjdaaGreatDoor
open Go.RowKit
set_option linter.unusedVariables false
set_option linter.unusedSimpArgs false
theorem cellsN_app (a b : List Nd) : cellsN (a ++ b) = cellsN a ++ cellsN b := by simp [cellsN]
theorem cellsN_len (a : List Nd) : (cellsN a).length = a.length * 3 := flatK_len nd_len a
theorem fN_one (f : Nd) (hfs : ∃ a l c, f.rv = .slice a l c) : ∀ u ∈ f.cells, u.oneCell' = true := by
  intro u hu
  obtain ⟨a, l, c, e⟩ := hfs
  simp [Nd.cells, e] at hu
  rcases hu with rfl | rfl | rfl <;> rfl
theorem cellsN_ins (all : List Nd) (f : Nd) (i : Nat) : cellsN (all.take i ++ f :: all.drop i) = cellsN (all.take i) ++ f.cells ++ cellsN (all.drop i) := by
  simp [cellsN]
set_option maxHeartbeats 4000000 in
set_option maxRecDepth 100000 in
theorem insertN_end {w : World} {base : Nat} {v : Value} {all : List Nd} (h : w.ownsRow base 40 3 v all.length (cellsN all)) (vb : Nat) (f : Nd) (hfs : ∃ a l c, f.rv = .slice a l c) (hf : ∀ j u, f.cells[j]? = some u → w.cell? ((⟨vb, 0, none⟩ : Addr).add j) = some u) (hbase : base ≤ w.heap.size) (hn : all.length ≤ 1000) :
    Calls Tryz.prog 144 #[v, .int .i64 all.length, .slice (some ⟨vb, 0, none⟩) 1 1] w fun e w' => ∃ v', e = .returned v' ∧ w'.ownsRow base 40 3 v' (all.length + 1) (cellsN all ++ f.cells) ∧ w.grownBy w' v.ownBlock := by
  obtain ⟨i0, hi0, hz0, hz1, hz2⟩ := info_parts infoN
  have HM : Hid (all.length + 1 ≤ maxLen ∧ (all.length + 1) * 48 ≤ 140737488355328) := by unfold maxLen; exact ⟨by omega, by omega⟩
  have HO : Hid (w.ownsRow base 40 3 v all.length (cellsN all) ∧ ∀ j u, f.cells[j]? = some u → w.cell? ((⟨vb, 0, none⟩ : Addr).add j) = some u) := ⟨h, hf⟩
  rcases h.2 with ⟨rfl, h0⟩ | ⟨g, cap, cur, rfl, hb, hg, hle, hcm, hcs, ht⟩
  · rw [h0] at HM HO ⊢
    clear h hf hn h0
    go_enter Tryz.func144, Tryz.ntmps144
    go_wp2_with (at_builtin; refine wpList_append_own _ rfl (.tmp 23) (.tmp 24) 64 rfl base 40 i0 _ 3 48 Tryz.underlying64 hi0 hz0 hz1 hz2 rfl (by decide) _ 0 (cellsN all) rfl HO.out.1 ⟨vb, 0, none⟩ 1 1 f.cells rfl rfl HO.out.2 (fN_one f hfs) HM.out.1 HM.out.2 hbase ?_; intro v1 w1 hown1 hgrow1 _)
    go_ret
    exact ⟨_, rfl, hown1, hgrow1⟩
  · have hnc : (all.length : Int) ≤ (cap : Int) := by omega
    unfold maxLen at hcm
    clear h hf hb hg hcs ht
    generalize all.length = n at *
    go_enter Tryz.func144, Tryz.ntmps144
    go_wp2_with (at_builtin; refine wpList_append_own _ rfl (.tmp 23) (.tmp 24) 64 rfl base 40 i0 _ 3 48 Tryz.underlying64 hi0 hz0 hz1 hz2 rfl (by decide) _ n (cellsN all) rfl HO.out.1 ⟨vb, 0, none⟩ 1 1 f.cells rfl rfl HO.out.2 (fN_one f hfs) HM.out.1 HM.out.2 hbase ?_; intro v1 w1 hown1 hgrow1 _)
    all_goals
      go_ret
      exact ⟨_, rfl, hown1, hgrow1⟩
set_option maxHeartbeats 4000000 in
set_option maxRecDepth 100000 in
theorem insertN_room {w : World} {g n cap i vb : Nat} {cur : Array Value} {xs ys : List Value} (f : Nd) (hfs : ∃ a l c, f.rv = .slice a l c) (hg : w.heap[g]? = some (.cells cur 40 (0, 0))) (hs : cur.size = cap * 3) (hcm : cap ≤ maxLen)
    (ht : cur.toList.take (n * 3) = xs ++ ys) (hx : xs.length = i * 3) (hy : ys.length = (n - i) * 3) (hi : i < n) (hn : n ≤ 1000) (hroom : n + 1 ≤ cap) (h1 : ∀ u ∈ ys, u.oneCell' = true)
    (hv : w.heap[vb]? = some (.cells #[.int .i64 f.id, .string f.kd, f.rv] 40 (0, 0))) (hne : vb ≠ g) :
    Calls Tryz.prog 144 #[.slice (some ⟨g, 0, none⟩) n cap, .int .i64 i, .slice (some ⟨vb, 0, none⟩) 1 1] w fun e w' => e = .returned (.slice (some ⟨g, 0, none⟩) (n + 1) cap) ∧ ∃ w1 : World, w1.heap = w.heap ∧ w1.os = w.os ∧ w1.tape = w.tape ∧ w1.output = w.output ∧ w' = w1.setRow g (lay (lay cur.toList ((i + 1) * 3) ys) (i * 3) f.cells).toArray := by
  have hov : ∀ o lb cb, (callFunc 183 #[.slice (some ⟨vb, 0, none⟩) 1 1, .slice (some ⟨g, o, none⟩) lb cb]).run Tryz.prog w = .ok (.value (.bool false)) w := fun o lb cb => by
    rw [run_callFunc_extern Tryz.func183 (by kernel_rfl) (by kernel_rfl) (by kernel_rfl) (e := Extern.SlicesOverlaps.overlaps #[64, 64] #[4]) (by kernel_rfl),
      Lib.run_overlaps_apart w 64 4 40 Tryz.underlying64 3 Tryz.sizeOf40 ⟨vb, 0, none⟩ ⟨g, o, none⟩ 1 1 lb cb hne 40 40 3 cur.size (by simp [World.shape?, hv]) (by simp [World.shape?, hg]) (by omega) (by simp [World.frozen?, hv]) (by simp [World.frozen?, hv])]
    rfl
  have hsz : (Tryz.prog.info? 40).map (·.size) = some 3 := by
    obtain ⟨i0, hi0, hz0, hz1, hz2⟩ := info_parts infoN
    rw [hi0]; simp [hz1]
  have hcl : n * 3 ≤ cur.toList.length := by simp; omega
  have hyc : ∀ j u, ys[j]? = some u → cur.toList[i * 3 + j]? = some u := fun j u hu => by
    have hj := (List.getElem?_eq_some_iff.1 hu).1
    have e : (cur.toList.take (n * 3))[i * 3 + j]? = some u := by rw [ht, List.getElem?_append_right (by omega), hx]; simpa using hu
    rw [List.getElem?_take] at e
    split at e
    · exact e
    · cases e
  have hcp1 : ∀ ty dc sc, (Builtin.copy_ #[64, 64] ty #[.slice (some ⟨g, (i + 1) * 3, none⟩) (n - i) dc, .slice (some ⟨g, i * 3, none⟩) (n + 1 - i) sc]).run Tryz.prog w.drew = .ok (goInt ((n - i : Nat) : Int)) (w.drew.setRow g (lay cur.toList ((i + 1) * 3) ys).toArray) := fun ty dc sc =>
    run_copy_rowN w.drew 64 64 ty 40 3 g ((i + 1) * 3) (n - i) dc ⟨g, i * 3, none⟩ (n + 1 - i) sc cur 40 ys (n - i) Tryz.underlying64 hsz hg (by show min _ _ = _; omega) hy
      (fun j u hu => by rw [Addr.add_lit, cell_of_row w.drew g (i * 3 + j) cur 40 (0, 0) hg]; simpa using hyc j u hu) (by omega) h1
  have hl1 : (lay cur.toList ((i + 1) * 3) ys).length = cur.toList.length := lay_len (by simp; omega)
  obtain ⟨W1, hW1⟩ : ∃ W1, W1 = w.drew.setRow g (lay cur.toList ((i + 1) * 3) ys).toArray := ⟨_, rfl⟩
  have hg1 : W1.heap[g]? = some (.cells (lay cur.toList ((i + 1) * 3) ys).toArray 40 (0, 0)) := by rw [hW1]; exact setRow_heap w.drew g cur _ 40 _ hg
  have hv1 : W1.heap[vb]? = some (.cells #[.int .i64 f.id, .string f.kd, f.rv] 40 (0, 0)) := by rw [hW1, setRow_other w.drew g vb _ hne]; exact hv
  have hcp2 : ∀ ty dc sc, (Builtin.copy_ #[64, 64] ty #[.slice (some ⟨g, i * 3, none⟩) (n + 1 - i) dc, .slice (some ⟨vb, 0, none⟩) 1 sc]).run Tryz.prog W1 = .ok (goInt 1) (W1.setRow g (lay (lay cur.toList ((i + 1) * 3) ys) (i * 3) f.cells).toArray) := fun ty dc sc => by
    have := run_copy_rowN W1 64 64 ty 40 3 g (i * 3) (n + 1 - i) dc ⟨vb, 0, none⟩ 1 sc _ 40 f.cells 1 Tryz.underlying64 hsz hg1 (by show min _ _ = _; omega) rfl
      (fun j u hu => by rw [Addr.add_lit, cell_of_row W1 vb (0 + j) _ 40 (0, 0) hv1]; simpa [Nd.cells] using hu) (by simp [hl1, Nd.cells]; omega) (fN_one f hfs)
    simpa [lay] using this
  have hfin : W1.setRow g (lay (lay cur.toList ((i + 1) * 3) ys) (i * 3) f.cells).toArray = w.drew.setRow g (lay (lay cur.toList ((i + 1) * 3) ys) (i * 3) f.cells).toArray := by rw [hW1, setRow_setRow]
  obtain ⟨W2, hW2⟩ : ∃ W2, W2 = W1.setRow g (lay (lay cur.toList ((i + 1) * 3) ys) (i * 3) f.cells).toArray := ⟨_, rfl⟩
  rw [← hW2] at hcp2 hfin
  rw [← hW1] at hcp1
  have HF : Hid (W2 = w.drew.setRow g (lay (lay cur.toList ((i + 1) * 3) ys) (i * 3) f.cells).toArray) := hfin
  unfold maxLen at hcm
  have hz2 : ¬ ((i : Int) = (n : Int)) := by omega
  have hi1 : (i : Int) ≤ (n : Int) := by omega
  have hi2 : (i : Int) ≤ (n : Int) + 1 := by omega
  have hr1 : ¬ ((cap : Int) < (n : Int) + 1) := by omega
  have hci : ¬ (cap = i) := by omega
  have hci1 : ¬ (cap = i + 1) := by omega
  have hw1 : IntKind.i64.wrap ((i : Int) + 1) = (i : Int) + 1 := by rw [IntKind.wrap_i64]; omega
  have hb1 : (0 : Int) ≤ (i : Int) + 1 := by omega
  have htn : ((i : Int) + 1).toNat = i + 1 := by omega
  clear hg hv ht hs hx hy h1 hW1 hW2 hg1 hv1 hl1 hcl hyc hfin hsz
  go_enter Tryz.func144, Tryz.ntmps144
  go_wp2_with (simp only [hov])
  go_region_law (refine step_copy_runN rfl (.tmp 73) (.tmp 76) 64 64 rfl _ _ (by simp [Act.eval, Act.put]) (by simp [Act.eval, Act.put]) (hcp1 _ _ _) ?_)
  all_goals
    go_wp2_with (at_builtin; refine wpList_copy_runN _ rfl (.tmp 80) (.tmp 81) 64 64 rfl _ _ rfl rfl (hcp2 _ _ _) ?_)
    go_ret
    exact ⟨rfl, w.drew, rfl, rfl, rfl, rfl, HF.out⟩
set_option maxHeartbeats 4000000 in
set_option maxRecDepth 100000 in
theorem insertN_grow {w : World} {g n cap i vb : Nat} {cur : Array Value} {xs ys : List Value} (f : Nd) (hfs : ∃ a l c, f.rv = .slice a l c) (hg : w.heap[g]? = some (.cells cur 40 (0, 0))) (hs : cur.size = cap * 3)
    (ht : cur.toList.take (n * 3) = xs ++ ys) (hx : xs.length = i * 3) (hy : ys.length = (n - i) * 3) (hi : i < n) (hn : n ≤ 1000) (hnc : n ≤ cap) (hroom : cap < n + 1) (h1 : ∀ u ∈ ys, u.oneCell' = true)
    (hv : w.heap[vb]? = some (.cells #[.int .i64 f.id, .string f.kd, f.rv] 40 (0, 0))) :
    Calls Tryz.prog 144 #[.slice (some ⟨g, 0, none⟩) n cap, .int .i64 i, .slice (some ⟨vb, 0, none⟩) 1 1] w fun e w' => ∃ G, ∃ row : List Value, e = .returned (.slice (some ⟨w.heap.size, 0, none⟩) (n + 1) G) ∧ n + 1 ≤ G ∧ G ≤ maxLen ∧ w'.heap[w.heap.size]? = some (.cells row.toArray 40 (0, 0)) ∧ row.length = G * 3 ∧ row.take ((n + 1) * 3) = xs ++ f.cells ++ ys ∧ Below w.heap.size w w' := by
  obtain ⟨i0, hi0, hz0, hzs, hzb⟩ := info_parts infoN
  have hsz : (Tryz.prog.info? 40).map (·.size) = some 3 := by rw [hi0]; simp [hzs]
  have hgl : g < w.heap.size := (Array.getElem?_eq_some_iff.1 hg).1
  have hvl : vb < w.heap.size := (Array.getElem?_eq_some_iff.1 hv).1
  have hcl : n * 3 ≤ cur.toList.length := by simp; omega
  have hxyc : ∀ j u, (xs ++ ys)[j]? = some u → cur.toList[j]? = some u := fun j u hu => by
    rw [← ht, List.getElem?_take] at hu
    split at hu
    · exact hu
    · cases hu
  have hyc : ∀ j u, ys[j]? = some u → cur.toList[i * 3 + j]? = some u := fun j u hu => hxyc _ _ (by rw [List.getElem?_append_right (by omega), hx]; simpa using hu)
  have hxc : ∀ j u, xs[j]? = some u → cur.toList[j]? = some u := fun j u hu => hxyc _ _ (by rw [List.getElem?_append_left (List.getElem?_eq_some_iff.1 hu).1]; exact hu)
  have hold : (Builtin.firstCells i0.size i (.slice (some ⟨g, 0, none⟩) i cap)).run Tryz.prog w.drew = .ok xs.toArray w.drew := by
    rw [hzs]
    show (loadCells ⟨g, 0, none⟩ (i * 3)).run Tryz.prog w.drew = _
    rw [← hx]
    exact run_loadCells_list w.drew _ xs (fun j u hu => by rw [Addr.add_lit, cell_of_row w.drew g (0 + j) cur 40 (0, 0) hg]; simpa using hxc j u hu)
  have hik : i + (n + 1 - i) = n + 1 := by omega
  have hkk : (n : Int) + 1 - (i : Int) = ((n + 1 - i : Nat) : Int) := by omega
  obtain ⟨G, hG⟩ : ∃ G, G = grownCap w (n + 1) cap 40 := ⟨_, rfl⟩
  have hGn : n + 1 ≤ G := by rw [hG]; exact grownCap_ge w _ _ _
  have hGm : G ≤ maxLen := by rw [hG]; exact grownCap_le_maxLen w (n + 1) cap 40 (by unfold maxLen; omega)
  obtain ⟨Z, hZ⟩ : ∃ Z, Z = Builtin.zeroCells (Value.agg #[.int .i64 0, .string ⟨#[]⟩, .slice none 0 0]).cells (n + 1 - i) := ⟨_, rfl⟩
  obtain ⟨T, hT⟩ : ∃ T, T = Builtin.zeroCells (Value.agg #[.int .i64 0, .string ⟨#[]⟩, .slice none 0 0]).cells (G - (n + 1)) := ⟨_, rfl⟩
  have hZl : Z.toList.length = (n + 1 - i) * 3 := by rw [hZ]; simp [Builtin.zeroCells, Value.cells]
  have hTl : T.toList.length = (G - (n + 1)) * 3 := by rw [hT]; simp [Builtin.zeroCells, Value.cells]
  obtain ⟨R, hR⟩ : ∃ R, R = xs ++ Z.toList ++ T.toList := ⟨_, rfl⟩
  have hRl : R.length = G * 3 := by rw [hR]; simp only [List.length_append]; omega
  have hRa : xs.toArray ++ Z ++ T = R.toArray := by rw [hR]; apply Array.toList_inj.1; simp
  have hrz : ∀ ty, (Builtin.append_ #[64, 3] ty #[.slice (some ⟨g, 0, none⟩) i cap, .int .i64 ((n : Int) + 1 - (i : Int))]).run Tryz.prog w =
      .ok (.slice (some ⟨w.heap.size, 0, none⟩) (n + 1) G) (w.drew.alloc (.cells R.toArray 40)) := fun ty => by
    have h := Lib.run_append_grow_zeros w 64 3 ty 40 i0 _ .i64 .i64 Tryz.underlying64 Tryz.underlying3 hi0 hz0 (some ⟨g, 0, none⟩) i cap xs hold (n + 1 - i) (by omega) (by omega) (by omega) (by omega) (by rw [hzb]; omega) (by rw [hzb, hik]; exact growslice_fits hroom (by omega))
    rw [hik, ← hG, ← hZ, ← hT, hRa] at h
    rw [hkk]
    exact h
  obtain ⟨W1, hW1⟩ : ∃ W1, W1 = w.drew.alloc (.cells R.toArray 40) := ⟨_, rfl⟩
  have hB1 : Below w.heap.size w W1 := by rw [hW1]; exact (Below.refl _ w).drew.alloc (Nat.le_refl _) _
  have hh1 : W1.heap[w.heap.size]? = some (.cells R.toArray 40 (0, 0)) := by rw [hW1]; exact heap_alloc_new w.drew _
  have hv1 := (hB1.block vb hvl).trans hv
  have hg1 := (hB1.block g hgl).trans hg
  have hfl : f.cells.length = 3 := rfl
  have hcpA : ∀ ty dc sc, (Builtin.copy_ #[64, 64] ty #[.slice (some ⟨w.heap.size, i * 3, none⟩) (n + 1 - i) dc, .slice (some ⟨vb, 0, none⟩) 1 sc]).run Tryz.prog W1 = .ok (goInt 1) (W1.setRow w.heap.size (lay R (i * 3) f.cells).toArray) := fun ty dc sc => by
    have := run_copy_rowN W1 64 64 ty 40 3 w.heap.size (i * 3) (n + 1 - i) dc ⟨vb, 0, none⟩ 1 sc _ 40 f.cells 1 Tryz.underlying64 hsz hh1 (by show min _ _ = _; omega) rfl
      (fun j u hu => by rw [Addr.add_lit, cell_of_row W1 vb (0 + j) _ 40 (0, 0) hv1]; simpa [Nd.cells] using hu) (by rw [hfl, List.size_toArray, hRl]; omega) (fN_one f hfs)
    simpa [lay] using this
  obtain ⟨R2, hR2⟩ : ∃ R2, R2 = lay R (i * 3) f.cells := ⟨_, rfl⟩
  have hR2l : R2.length = G * 3 := by rw [hR2, lay_len (by rw [hfl, hRl]; omega)]; exact hRl
  rw [← hR2] at hcpA
  obtain ⟨W2, hW2⟩ : ∃ W2, W2 = W1.setRow w.heap.size R2.toArray := ⟨_, rfl⟩
  have hh2 : W2.drew.heap[w.heap.size]? = some (.cells R2.toArray 40 (0, 0)) := by rw [hW2]; exact setRow_heap W1 w.heap.size _ _ 40 _ hh1
  have hB2 : Below w.heap.size w W2 := by rw [hW2]; exact below_setRow hB1 (Nat.le_refl _) _
  have hg2 : W2.drew.heap[g]? = some (.cells cur 40 (0, 0)) := (hB2.block g hgl).trans hg
  have hcpB : ∀ ty dc sc, (Builtin.copy_ #[64, 64] ty #[.slice (some ⟨w.heap.size, (i + 1) * 3, none⟩) (n - i) dc, .slice (some ⟨g, i * 3, none⟩) (n - i) sc]).run Tryz.prog W2.drew = .ok (goInt ((n - i : Nat) : Int)) (W2.drew.setRow w.heap.size (lay R2 ((i + 1) * 3) ys).toArray) := fun ty dc sc =>
    run_copy_rowN W2.drew 64 64 ty 40 3 w.heap.size ((i + 1) * 3) (n - i) dc ⟨g, i * 3, none⟩ (n - i) sc _ 40 ys (n - i) Tryz.underlying64 hsz hh2 (by show min _ _ = _; omega) hy
      (fun j u hu => by rw [Addr.add_lit, cell_of_row W2.drew g (i * 3 + j) cur 40 (0, 0) hg2]; simpa using hyc j u hu) (by rw [List.size_toArray, hR2l]; omega) h1
  obtain ⟨W3, hW3⟩ : ∃ W3, W3 = W2.drew.setRow w.heap.size (lay R2 ((i + 1) * 3) ys).toArray := ⟨_, rfl⟩
  have HE : Hid (W3.heap[w.heap.size]? = some (.cells (lay R2 ((i + 1) * 3) ys).toArray 40 (0, 0)) ∧ (lay R2 ((i + 1) * 3) ys).length = G * 3 ∧ (lay R2 ((i + 1) * 3) ys).take ((n + 1) * 3) = xs ++ f.cells ++ ys ∧ Below w.heap.size w W3 ∧ n + 1 ≤ G ∧ G ≤ maxLen) := by
    refine ⟨by rw [hW3]; exact setRow_heap W2.drew w.heap.size _ _ 40 _ hh2, ?_, ?_, ?_, hGn, hGm⟩
    · rw [lay_len (by rw [hR2l]; omega)]; exact hR2l
    · have e := lay_grow xs ys f.cells Z.toList (by rw [hZl, hfl]; omega) T.toList
      rw [hR2, hR]
      rw [hx, hfl, hy] at e
      rw [show (i + 1) * 3 = i * 3 + 3 by omega, show (n + 1) * 3 = i * 3 + 3 + (n - i) * 3 by omega]
      exact e
    · rw [hW3]; exact below_setRow hB2.drew (Nat.le_refl _) _
  rw [← hW1] at hrz
  rw [← hW2] at hcpA
  rw [← hW3] at hcpB
  unfold maxLen at hGm
  have hz2 : ¬ ((i : Int) = (n : Int)) := by omega
  have hi1 : (i : Int) ≤ (n : Int) := by omega
  have hi2 : (i : Int) ≤ (n : Int) + 1 := by omega
  have hr1 : (cap : Int) < (n : Int) + 1 := by omega
  have hci : ¬ (cap = i) := by omega
  have hGi : ¬ (G = i) := by omega
  have hGi1 : ¬ (G = i + 1) := by omega
  have hw1 : IntKind.i64.wrap ((i : Int) + 1) = (i : Int) + 1 := by rw [IntKind.wrap_i64]; omega
  have hb1 : (0 : Int) ≤ (i : Int) + 1 := by omega
  have htn : ((i : Int) + 1).toNat = i + 1 := by omega
  clear hg hv ht hs hx hy h1 hW1 hW2 hW3 hg1 hv1 hh1 hh2 hg2 hcl hyc hxc hxyc hsz hold hik hkk hG hGn hZ hT hZl hTl hR hRl hRa hB1 hB2 hR2 hR2l hi0 hz0 hzs hzb hfl hgl hvl
  go_enter Tryz.func144, Tryz.ntmps144
  go_wp2_with (first
    | (at_builtin; refine Lib.wpList_append_run _ rfl _ _ _ _ rfl _ _ rfl rfl _ _ (hrz _) ?_)
    | (at_builtin; refine wpList_copy_runN _ rfl (.tmp 43) (.tmp 44) 64 64 rfl _ _ rfl rfl (hcpA _ _ _) ?_))
  go_region_law (refine step_copy_runN rfl (.tmp 50) (.tmp 53) 64 64 rfl _ _ (by simp [Act.eval, Act.put]) (by simp [Act.eval, Act.put]) (hcpB _ _ _) ?_)
  all_goals
    go_wp2
    go_ret
    exact ⟨G, _, rfl, HE.out.2.2.2.2.1, HE.out.2.2.2.2.2, HE.out.1, HE.out.2.1, HE.out.2.2.1, HE.out.2.2.2.1⟩
theorem insertN_any {w : World} {base : Nat} {v : Value} {all : List Nd} (h : w.ownsRow base 40 3 v all.length (cellsN all)) (i : Nat) (hi : i ≤ all.length) (vb : Nat) (f : Nd) (hfs : ∃ a l c, f.rv = .slice a l c) (hsl : SlN all) (hv : w.heap[vb]? = some (.cells #[.int .i64 f.id, .string f.kd, f.rv] 40 (0, 0))) (hne : v.ownBlock ≠ some vb) (hbase : base ≤ w.heap.size) (hn : all.length ≤ 1000) :
    Calls Tryz.prog 144 #[v, .int .i64 i, .slice (some ⟨vb, 0, none⟩) 1 1] w fun e w' => ∃ v', e = .returned v' ∧ w'.ownsRow base 40 3 v' (all.take i ++ f :: all.drop i).length (cellsN (all.take i ++ f :: all.drop i)) ∧ w.grownBy w' v.ownBlock := by
  have hlen : (all.take i ++ f :: all.drop i).length = all.length + 1 := by simp; omega
  rw [hlen, cellsN_ins]
  by_cases he : i = all.length
  · subst he
    refine (insertN_end h vb f hfs (fun j u hu => by rw [Addr.add_lit, cell_of_row w vb (0 + j) _ 40 (0, 0) hv]; simpa [Nd.cells] using hu) hbase hn).mono ?_
    rintro e w' ⟨v', rfl, ho, hB⟩
    refine ⟨v', rfl, ?_, hB⟩
    rw [List.take_length, List.drop_length]
    simpa [cellsN] using ho
  · have hlt : i < all.length := by omega
    have hh := h
    rcases h.2 with ⟨rfl, h0⟩ | ⟨g, cap, cur, rfl, hb, hg, hle, hcm, hcs, ht⟩
    · omega
    · have hgb : vb ≠ g := fun e => hne (by simp [Value.ownBlock, e])
      have hsplit : cellsN all = cellsN (all.take i) ++ cellsN (all.drop i) := by rw [← cellsN_app, List.take_append_drop]
      have hx : (cellsN (all.take i)).length = i * 3 := by rw [cellsN_len, List.length_take_of_le hi]
      have hy : (cellsN (all.drop i)).length = (all.length - i) * 3 := by rw [cellsN_len, List.length_drop]
      have hfl : f.cells.length = 3 := rfl
      rw [hsplit] at ht
      by_cases hroom : all.length + 1 ≤ cap
      · refine (insertN_room f hfs hg hcs hcm ht hx hy hlt hn hroom (nd_one (fun n hn => hsl n (List.mem_of_mem_drop hn))) hv hgb).mono ?_
        rintro e w' ⟨rfl, w1, e1, e2, e3, e4, rfl⟩
        have hg1 : w1.heap[g]? = some (.cells cur 40 (0, 0)) := by rw [e1]; exact hg
        have hll : (lay (lay cur.toList ((i + 1) * 3) (cellsN (all.drop i))) (i * 3) f.cells).length = cap * 3 := by
          have hc : cur.toList.length = cap * 3 := by simpa using hcs
          have l1 := lay_len (l := cur.toList) (o := (i + 1) * 3) (cs := cellsN (all.drop i)) (by rw [hy, hc]; omega)
          rw [lay_len (by rw [l1, hfl, hc]; omega), l1, hc]
        refine ⟨_, rfl, ⟨by simp only [List.length_append]; omega, .inr ⟨g, cap, _, rfl, hb, setRow_heap w1 g cur _ 40 _ hg1, hroom, hcm, by simpa using hll, ?_⟩⟩, ?_⟩
        · have e := lay_room cur.toList (cellsN (all.take i)) (cellsN (all.drop i)) (cur.toList.drop (all.length * 3)) f.cells (by rw [← ht, List.take_append_drop]) (by
            have hc : cur.toList.length = cap * 3 := by simpa using hcs
            rw [hfl, List.length_drop, hc]; omega)
          rw [hx, hfl, hy] at e
          rw [show (i + 1) * 3 = i * 3 + 3 by omega, show (all.length + 1) * 3 = i * 3 + 3 + (all.length - i) * 3 by omega]
          simpa using e
        · exact grown_trans (b := w1) ⟨e2, e3, e4, by rw [e1]; exact Nat.le_refl _, fun k _ _ => by rw [e1]⟩ (setRow_grownD w1 g _)
      · refine (insertN_grow f hfs hg hcs ht hx hy hlt hn hle (by omega) (nd_one (fun n hn => hsl n (List.mem_of_mem_drop hn))) hv).mono ?_
        rintro e w' ⟨G, row, rfl, h1, h2, h3, h4, h5, h6⟩
        refine ⟨_, rfl, ⟨by simp only [List.length_append]; omega, .inr ⟨w.heap.size, G, _, rfl, hbase, h3, h1, h2, by simpa using h4, by simpa using h5⟩⟩, grown_of_below h6 _⟩
end Go.Proofs.YtahamkajkkkjdaaGreatDoor
