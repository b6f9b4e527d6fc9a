/-
  slices.SortedFunc of the keys of a map of values.
-/
import Derived.Test.YtodddcacngjadaaKyD
namespace Go.Proofs.Ytodddcacngjadaa
open Go.Shelf Go.RowKit Go.Lib Go.Sort
set_option linter.unusedVariables false
set_option linter.unusedSimpArgs false

/-- Values that are right. -/
def VOk (x : V3) : Prop := vErr x.t x.n x.s.data.toList = 0 ∧ x.s.size ≤ maxLen
abbrev VS := { x : V3 // VOk x }
instance : Inhabited VS := ⟨⟨⟨1, 0, ⟨#[]⟩⟩, by decide, by show (0 : Nat) ≤ maxLen; decide⟩⟩
def encS3 (x : VS) : List Value := cells3 x.1
theorem encS3_len (x : VS) : (encS3 x).length = 3 := rfl
theorem encS3_one (x : VS) : ∀ v ∈ encS3 x, v.oneCell' = true := by
  intro v hv
  simp [encS3, cells3] at hv
  rcases hv with rfl | rfl | rfl <;> rfl
def cfV (x y : VS) : Int := kcV x.1.t x.1.n x.1.s.data.toList y.1.t y.1.n y.1.s.data.toList
theorem cfV_swo : SWO (ltOf cfV) := swo_of (fun x y => kcV_anti _ _ _ _ _ _) (fun x y z h1 h2 => kcV_trans _ _ _ _ _ _ _ _ _ h1 h2)

/-- Values of the call's own, sorted. -/
theorem sortV_any {w : World} {base : Nat} {vh : Value} (Hs : List VS) (ho : w.ownsRow base 24 3 vh Hs.length (Hs.flatMap encS3)) (hl : Hs.length ≤ 1000) :
    Calls Try.prog 32 #[vh, .func (.func 13) #[] #[]] w fun e w' => e = .returned (.tuple #[]) ∧ ∃ H' : List VS, H'.Perm Hs ∧ w'.ownsRow base 24 3 vh H'.length (H'.flatMap encS3) ∧ w.grownBy w' vh.ownBlock := by
  by_cases h0 : Hs = []
  · subst h0
    obtain ⟨ao, cp, rfl⟩ := own_slice ho
    refine (AnyF.slices_SortFunc_none sortV ao cp _ w).mono ?_
    rintro e w' ⟨rfl, rfl⟩
    exact ⟨rfl, [], List.Perm.refl _, ho, grown_of_below (Below.refl _ _) _⟩
  · have hpos : 0 < Hs.length := List.length_pos_iff.2 h0
    obtain ⟨g, cap, rfl, hgl⟩ : ∃ g cap, vh = .slice (some ⟨g, 0, none⟩) Hs.length cap ∧ g < w.heap.size := by
      rcases ho.2 with ⟨_, h⟩ | ⟨g, cap, cur, e, _, hg, _⟩
      · omega
      · exact ⟨g, cap, e, (Array.getElem?_eq_some_iff.1 hg).1⟩
    have hH : HoldsK encS3 3 w g 0 Hs.toArray := by
      unfold HoldsK
      rw [flatK_flat encS3 3 (by decide) encS3_len]
      exact holds_own ho
    have eg : ∀ args w, (callFunc 13 args).run Try.prog w = .ok (.enter 13 args) w := enters_of Try.func13 (by kernel_rfl) rfl
    have hcmp : CmpLays Try.prog 13 #[] encS3 3 cfV g 0 Hs.toArray.size w := fun m os dk hdk x y =>
      rcompare_any x.1.t x.1.n x.1.s y.1.t y.1.n y.1.s _ x.2.2 y.2.2 x.2.1 y.2.1
    have c : Calls Try.prog 32 #[.slice (some ⟨g, 0, none⟩) Hs.toArray.size cap, .func (.func 13) #[] #[]] w fun e w' => e = .returned (.tuple #[]) ∧ ∃ d' n os, PermIn 0 Hs.toArray.size Hs.toArray d' ∧ SortedIn (ltOf cfV) 0 Hs.toArray.size d' ∧ w' = sortWorldK encS3 3 w g 0 n d' os :=
      AnyQ.slices_SortFunc sortV 3 Try.isAgg24 Try.sizeOf24 encS3 encS3_len encS3_one cfV cfV_swo 13 #[] g 0 cap Hs.toArray w eg hcmp hH hgl (by simp; omega)
    rw [show Hs.toArray.size = Hs.length by simp] at c
    refine c.mono ?_
    rintro e w' ⟨rfl, d', n, os, hp, hs, rfl⟩
    have hp' : PermIn 0 Hs.toArray.size Hs.toArray d' := by rw [show Hs.toArray.size = Hs.length by simp]; exact hp
    have hpl := perm_list hp'
    have hz : d'.size = Hs.length := by have := hp'.1; simpa using this
    refine ⟨rfl, d'.toList, by simpa using hpl, ?_, grown_sort encS3 3 w g n d' os⟩
    have hlen : d'.toList.length = Hs.length := by simp [hz]
    have hown := own_putRow (q := n) (ys := d'.toList.flatMap encS3) ho (by rw [flat_len encS3 3 encS3_len, flat_len encS3 3 encS3_len, hlen])
    rw [← flatK_flat encS3 3 (by decide) encS3_len, Array.toArray_toList] at hown
    change (putRowK encS3 3 (Sort.ahead w n) g 0 d').ownsRow _ _ _ _ _ _ at hown
    rw [hlen]
    exact own_kt hown (Kt.of_below ⟨rfl, rfl, rfl, by unfold sortWorldK; rw [size_grow]; exact Nat.le_add_right _ _, fun b hb => by
      unfold sortWorldK
      show ((putRowK encS3 3 (Sort.ahead w n) g 0 d').heap ++ os)[b]? = _
      rw [Array.getElem?_append_left hb]⟩)
theorem flat_valS (H : List VS) : H.flatMap encS3 = (H.map Subtype.val).flatMap cells3 := by
  rw [List.flatMap_map]; rfl

set_option maxHeartbeats 2000000 in
set_option maxRecDepth 100000 in
theorem sortedFunc_any (Bm b : Nat) {G : V3 → Option Value} (w : World) (hBm : Bm < w.heap.size) (hm : w.cell? ⟨Bm, 0, none⟩ = some (.map (some b))) (hown : OwnM w Try.prog 24 enc3 b G) (hcap : ∀ ss : List V3, ss.Nodup → (∀ y ∈ ss, G y ≠ none) → ss.length ≤ 1000) (hok : ∀ x, G x ≠ none → VOk x) :
    Calls Try.prog 19 #[.func (.func 33) #[] #[.pointer (some ⟨Bm, 0, none⟩)], .func (.func 13) #[] #[]] w (KyP w G) := by
  have c := collect_any Bm b w hBm hm hown hcap
  have HC := Lib.hid (And.intro hcap hok)
  unfold KyP at *
  clear hcap hown hm hok
  go_enter Try.func19, Try.ntmps19
  go_wp2_with (go_at_call 31; refine c.mono ?_; rintro e w1 ⟨v, ss, rfl, hnd, hS, ho, hB⟩; refine Hid.out ?_)
  refine Lib.hid ?_
  obtain ⟨Hs, hHs⟩ : ∃ Hs : List VS, Hs.map Subtype.val = ss := ⟨ss.attach.map fun x => ⟨x.1, HC.out.2 x.1 ((hS x.1).1 x.2)⟩, by rw [List.map_map]; exact List.attach_map_subtype_val _⟩
  have hl : Hs.length ≤ 1000 := by
    have := HC.out.1 ss hnd (fun y hy => (hS y).1 hy)
    rw [← hHs] at this; simpa using this
  have ho' : w1.ownsRow w.heap.size 24 3 v Hs.length (Hs.flatMap encS3) := by
    rw [flat_valS, hHs, ← List.length_map (f := Subtype.val), hHs]; exact ho
  have c2 := sortV_any Hs ho' hl
  have HR := Lib.hid (And.intro hnd (And.intro hS (And.intro ho' (And.intro hB hHs))))
  clear c ho ho' hB hnd hS hHs
  go_wp2_with (go_at_call 32; refine c2.mono ?_; rintro e w2 ⟨rfl, H', hp, ho2, hg2⟩; refine Hid.out ?_)
  refine Lib.hid ?_
  obtain ⟨hnd, hS, ho', hB, hHs⟩ := HR.out
  have hpv : (H'.map Subtype.val).Perm ss := by rw [← hHs]; exact hp.map _
  have R : ∃ ss' : List V3, ss'.Nodup ∧ (∀ x, x ∈ ss' ↔ G x ≠ none) ∧ w2.ownsRow w.heap.size 24 3 v ss'.length (ss'.flatMap cells3) ∧ Below w.heap.size w w2 := by
    refine ⟨H'.map Subtype.val, hpv.nodup_iff.2 hnd, fun x => (hpv.mem_iff).trans (hS x), ?_, below_grown hB hg2 hB.size (fun j hj => (ho'.lt j hj).1)⟩
    rw [List.length_map, ← flat_valS]; exact ho2
  have HF := Lib.hid R
  clear R c2 hpv hp ho2 hg2 hnd hS ho' hB hHs HR HC
  go_wp2
  go_ret
  obtain ⟨ss', r1, r2, r3, r4⟩ := HF.out
  exact ⟨v, ss', rfl, r1, r2, r3, r4⟩
end Go.Proofs.Ytodddcacngjadaa
