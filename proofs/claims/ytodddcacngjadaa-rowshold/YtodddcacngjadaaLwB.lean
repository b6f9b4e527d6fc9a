/-
  The law's own fact: two records, sorted.
-/
import Derived.Test.YtodddcacngjadaaLwA
namespace Go.Proofs.Ytodddcacngjadaa
open Go.RowKit
set_option linter.unusedVariables false
set_option linter.unusedSimpArgs false

def prA (c : Int) : Pr := ⟨⟨#[97]⟩, 1, c, ⟨#[]⟩⟩
theorem prA_of (c : Int) : prOf [97] [prA c] = some (prA c) := by
  have hb : ((prA c).nm.toList == [97]) = true := (show ((⟨#[97]⟩ : ByteArray).toList == [97]) = true by kernel_rfl)
  unfold prOf
  exact List.find?_cons_of_pos (p := fun p : Pr => p.nm.toList == [97]) hb
theorem fact_have (r0 r1 : Value) : haveL [97] [⟨r0, [prA 2]⟩, ⟨r1, [prA 1]⟩] = [⟨⟨r0, [prA 2]⟩, 1, 2, ⟨#[]⟩⟩, ⟨⟨r1, [prA 1]⟩, 1, 1, ⟨#[]⟩⟩] := by
  unfold haveL
  rw [List.filterMap_cons_some (b := ⟨⟨r0, [prA 2]⟩, 1, 2, ⟨#[]⟩⟩) (by unfold hvOf; rw [prA_of]; rfl), List.filterMap_cons_some (b := ⟨⟨r1, [prA 1]⟩, 1, 1, ⟨#[]⟩⟩) (by unfold hvOf; rw [prA_of]; rfl)]; rfl
theorem fact_head {r0 r1 : Value} {H : List HvS} (hp : (H.map Subtype.val).Perm (haveL [97] [⟨r0, [prA 2]⟩, ⟨r1, [prA 1]⟩])) (hpw : H.Pairwise (fun x y => ¬ cfH false y x < 0)) : H.length = 2 ∧ ∃ a, H[0]? = some a ∧ a.1.r.rc = [prA 1] := by
  rw [fact_have] at hp
  have hl : H.length = 2 := by have := hp.length_eq; simpa using this
  refine ⟨hl, ?_⟩
  match H, hl with
  | [a, b], _ =>
    refine ⟨a, rfl, ?_⟩
    simp only [List.map_cons, List.map_nil] at hp
    have ha := hp.subset (List.mem_cons_self)
    simp only [List.mem_cons, List.not_mem_nil, or_false] at ha
    rcases ha with ha | ha
    · exfalso
      rw [ha] at hp
      have hb := (List.perm_singleton.1 hp.cons_inv)
      have hb2 : b.1 = ⟨⟨r1, [prA 1]⟩, 1, 1, ⟨#[]⟩⟩ := by simpa using hb
      have h2 := (List.pairwise_cons.1 hpw).1 b (by simp)
      apply h2
      unfold cfH kcH
      rw [if_neg (by decide), ha, hb2]
      show kcV 1 1 [] 1 2 [] < 0
      decide
    · rw [ha]
set_option maxHeartbeats 2000000 in
/-- The law's own fact. -/
theorem fact_any (w : World) (W3 : World) (hW3 : W3 = ((w.alloc (.cells #[.string ⟨#[97]⟩, .int .i64 1, .int .i64 2, .string ⟨#[]⟩] 26)).alloc (.cells #[.string ⟨#[97]⟩, .int .i64 1, .int .i64 1, .string ⟨#[]⟩] 26)).alloc (.cells #[.slice (some ⟨w.heap.size, 0, none⟩) 1 1, .slice (some ⟨w.heap.size + 1, 0, none⟩) 1 1] 28)) :
    Calls Try.prog 4 #[.slice (some ⟨w.heap.size + 1 + 1, 0, none⟩) 2 2, .string ⟨#[97]⟩, .bool false] W3 fun e w' => ∃ g cg g0 c0, e = .returned (.tuple #[.slice (some ⟨g, 0, none⟩) 2 cg, .nilIface]) ∧ w'.cell? ⟨g, 0, none⟩ = some (.slice (some ⟨g0, 0, none⟩) 1 c0) ∧ w'.cell? ⟨g0, 2, none⟩ = some (.int .i64 1) ∧ Below w.heap.size w w' := by
  obtain ⟨W1, hW1⟩ : ∃ W1, W1 = w.alloc (.cells #[.string ⟨#[97]⟩, .int .i64 1, .int .i64 2, .string ⟨#[]⟩] 26) := ⟨_, rfl⟩
  obtain ⟨W2, hW2⟩ : ∃ W2, W2 = W1.alloc (.cells #[.string ⟨#[97]⟩, .int .i64 1, .int .i64 1, .string ⟨#[]⟩] 26) := ⟨_, rfl⟩
  have hs1 : W1.heap.size = w.heap.size + 1 := by rw [hW1]; simp
  have hs2 : W2.heap.size = w.heap.size + 1 + 1 := by rw [hW2, World.size_alloc, hs1]
  rw [← hW1, ← hW2] at hW3
  have hs3 : W3.heap.size = w.heap.size + 1 + 1 + 1 := by rw [hW3, World.size_alloc, hs2]
  have l1 : Lies W1 w.heap.size 0 [prA 2] := by rw [hW1]; exact lies_new w (prA 2)
  have l2 : Lies W2 W1.heap.size 0 [prA 1] := by rw [hW2]; exact lies_new W1 (prA 1)
  have b12 : Below W1.heap.size W1 W2 := by rw [hW2]; exact b_allocR (Below.refl _ _) _
  have b23 : Below W2.heap.size W2 W3 := by rw [hW3]; exact b_allocR (Below.refl _ _) _
  have bw : Below w.heap.size w W3 := by rw [hW3, hW2, hW1]; exact b_allocR (b_allocR (b_allocR (Below.refl _ _) _) _) _
  have n3 : W3.heap[w.heap.size + 1 + 1]? = some (.cells #[.slice (some ⟨w.heap.size, 0, none⟩) 1 1, .slice (some ⟨w.heap.size + 1, 0, none⟩) 1 1] 28 (0, 0)) := by rw [hW3, ← hs2]; exact heap_alloc_new W2 _
  have r0 : IsR W3 (.slice (some ⟨w.heap.size, 0, none⟩) 1 1) [prA 2] := ⟨_, 1, rfl, .inr ⟨w.heap.size, 0, rfl, by omega, (l1.on (by omega) b12).on (by omega) b23⟩⟩
  have r1 : IsR W3 (.slice (some ⟨w.heap.size + 1, 0, none⟩) 1 1) [prA 1] := ⟨_, 1, rfl, .inr ⟨w.heap.size + 1, 0, rfl, by omega, by rw [hs1] at l2; exact l2.on (by omega) b23⟩⟩
  have hIs : IsRs W3 (.slice (some ⟨w.heap.size + 1 + 1, 0, none⟩) 2 2) [⟨.slice (some ⟨w.heap.size, 0, none⟩) 1 1, [prA 2]⟩, ⟨.slice (some ⟨w.heap.size + 1, 0, none⟩) 1 1, [prA 1]⟩] :=
    ⟨_, 2, rfl, .inr ⟨w.heap.size + 1 + 1, 0, rfl, by omega, fun k x hx => by
      match k, hx with
      | 0, hx => simp at hx; subst hx; exact ⟨cell_at n3 rfl, r0⟩
      | 1, hx => simp at hx; subst hx; exact ⟨cell_at n3 rfl, r1⟩
      | k + 2, hx => simp at hx⟩⟩
  have e2 : rErr [prA 2] = 0 := by decide
  have e1 : rErr [prA 1] = 0 := by decide
  have hz : SzRs [⟨.slice (some ⟨w.heap.size, 0, none⟩) 1 1, [prA 2]⟩, ⟨.slice (some ⟨w.heap.size + 1, 0, none⟩) 1 1, [prA 1]⟩] := fun x hx => by
    simp only [List.mem_cons, List.not_mem_nil, or_false] at hx
    rcases hx with rfl | rfl
    · exact ⟨sz_of e2, by show (1 : Nat) ≤ maxLen; decide⟩
    · exact ⟨sz_of e1, by show (1 : Nat) ≤ maxLen; decide⟩
  have hask : askRE [⟨.slice (some ⟨w.heap.size, 0, none⟩) 1 1, [prA 2]⟩, ⟨.slice (some ⟨w.heap.size + 1, 0, none⟩) 1 1, [prA 1]⟩] (⟨#[97]⟩ : ByteArray).data.toList = 0 := by
    unfold askRE
    rw [if_neg (by show ¬ 200 < 2; omega), if_pos (rsE_of (fun x hx => by
      simp only [List.mem_cons, List.not_mem_nil, or_false] at hx
      rcases hx with rfl | rfl
      · exact e2
      · exact e1))]
    decide
  refine (sort_ok hIs hz (by show (2 : Nat) ≤ maxLen; decide) ⟨#[97]⟩ (by show (1 : Nat) ≤ maxLen; decide) false hask).mono ?_
  rintro e w' ⟨v, H, rfl, hp, hpw, ⟨C, hCl, hO, hC⟩, hB⟩
  have ht : (⟨#[97]⟩ : ByteArray).toList = [97] := Lib.toList_data _
  rw [ht] at hp
  obtain ⟨hHl, a, ha, hrc⟩ := fact_head hp hpw
  have hlk : lackL (⟨#[97]⟩ : ByteArray).toList [⟨.slice (some ⟨w.heap.size, 0, none⟩) 1 1, [prA 2]⟩, ⟨.slice (some ⟨w.heap.size + 1, 0, none⟩) 1 1, [prA 1]⟩] = [] := by
    rw [ht]
    unfold lackL
    rw [List.filter_cons_of_neg (by rw [prA_of]; simp), List.filter_cons_of_neg (by rw [prA_of]; simp)]; rfl
  rw [hlk, List.map_nil, List.append_nil] at hO hC hCl
  have hM : (H.map fun h : HvS => h.1.r.rc)[0]? = some [prA 1] := by rw [List.getElem?_map, ha, ← hrc]; rfl
  have hMl : (H.map fun h : HvS => h.1.r.rc).length = 2 := by rw [List.length_map, hHl]
  obtain ⟨u, hu⟩ : ∃ u, C[0]? = some u := ⟨_, List.getElem?_eq_getElem (by omega)⟩
  have hou := hC 0 u _ hu hM
  rw [hMl] at hO
  obtain ⟨g, cg, rfl⟩ : ∃ g cg, v = .slice (some ⟨g, 0, none⟩) 2 cg := by
    rcases hO.2 with ⟨_, h0⟩ | ⟨g, cap, cur, e, _⟩
    · omega
    · exact ⟨g, cap, e⟩
  obtain ⟨g0, c0, rfl⟩ : ∃ g0 c0, u = .slice (some ⟨g0, 0, none⟩) 1 c0 := by
    rcases hou.2 with ⟨_, h0⟩ | ⟨g, cap, cur, e, _⟩
    · cases h0
    · exact ⟨g, cap, e⟩
  refine ⟨g, cg, g0, c0, rfl, ?_, ?_, on1R bw hB⟩
  · have := hO.cells (g := g) rfl 0 _ hu
    rw [Addr.add_lit] at this; exact this
  · have := hou.cells (g := g0) rfl 2 (.int .i64 1) rfl
    rw [Addr.add_lit] at this; exact this
end Go.Proofs.Ytodddcacngjadaa
