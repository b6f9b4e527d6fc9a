/-
  The law AskShort returns true.
-/
import Derived.Test.YtenadbfedbjefaaDoorAsD
namespace Go.Proofs.YtenadbfedbjefaaDoor
open Go.RowKit
set_option linter.unusedVariables false
set_option linter.unusedSimpArgs false

theorem hndOn {w w' : World} (hg : Hnd w) (hb : Below w.heap.size w w') : Hnd w' := by
  have hlt : 1 < w.heap.size := by
    rcases Nat.lt_or_ge 1 w.heap.size with h | h
    · exact h
    · have hg' : w.cell? ⟨1, 0, none⟩ = _ := hg
      simp [World.cell?, Array.getElem?_eq_none h] at hg'
  exact (hb.cell (p := ⟨1, 0, none⟩) hlt).trans hg
set_option maxHeartbeats 4000000 in
theorem error_gen (x y : Int) (w : World) (hg : Hnd w) : Calls Tryd.prog 6 #[errV x, .int .i64 y] w fun e w' => e = .returned (.bool (x == y)) ∧ Below w.heap.size w w' := by
  go_enter Tryd.func6, Tryd.ntmps6
  go_wp2_with (go_at_call 13; refine (told_any x _ hg).mono ?_; rintro e w' ⟨rfl, hb⟩)
  go_ret
  exact ⟨rfl, hb⟩
theorem print_none (a : Option Addr) (c : Nat) (w : World) : Calls Tryd.prog 5 #[.slice a 0 c] w fun e w' => e = .returned (.tuple #[.string ⟨#[]⟩, .iface 37 (.int .i64 5)]) ∧ w' = w := by
  have cP : ∀ W : World, Calls Tryd.prog 9 #[.slice a 0 c] W fun e w' => e = .returned (.iface 37 (.int .i64 5)) ∧ w' = W := fun W => by
    go_enter Tryd.func9, Tryd.ntmps9
    go_wp2
    go_ret
    exact ⟨rfl, rfl⟩
  go_enter Tryd.func5, Tryd.ntmps5
  go_wp2_with (go_at_call 9; refine (cP _).mono ?_; rintro e w' ⟨rfl, rfl⟩)
  go_ret2
  exact ⟨rfl, rfl⟩

set_option maxHeartbeats 8000000 in
set_option maxRecDepth 100000 in
theorem ashort_any {vn vb : Value} {n m : Nat} {q : Nat → ByteArray} {B : Nat → Bool} {w : World} (hn : IsNs w vn n q) (hb : IsBs w vb m B) (hg : Hnd w) :
    Calls Tryd.prog 3 #[vn, vb] w fun e w' => e = .returned (.bool true) ∧ Below w.heap.size w w' := by
  obtain ⟨i0, hi0, hz0, hz1, hz2⟩ := info_parts infoS
  obtain ⟨an, cn, rfl, hnl, hnc⟩ := hn
  obtain ⟨ab, cb, rfl, hml, hbc⟩ := hb
  have HN := Lib.hid hnc
  have HBB := Lib.hid hbc
  have HG := Lib.hid hg
  unfold maxLen at hnl hml
  clear hnc hbc hg
  go_enter Tryd.func3, Tryd.ntmps3
  go_wp2
  go_loopw [5, 6, 7] (fun lv wv i wr => AsI w lv wv i wr) (fun _ _ i _ => 6 - (intOf i).toNat)
  case atStart => exact ⟨0, [], by omega, rfl, rfl, World.ownsRow_nil _ _ _ _, by simp, fun k p hp => by simp at hp, Below.refl _ _⟩
  case round =>
    obtain ⟨k, L, hk, rfl, rfl, hO, hLk, hE, hB⟩ := hrel
    have HO := Lib.hid hO
    have HE := Lib.hid hE
    have HB := Lib.hid hB
    have HLK := Lib.hid hLk
    obtain ⟨al, cl, hlv⟩ := own_slice hO
    subst hlv
    clear hO hE hLk
    by_cases hlt : k < n ∧ k < 6
    · obtain ⟨hlt, h6⟩ := hlt
      have d1 : decide ((k : Int) < (n : Int)) = true := by simp; omega
      have d2 : ((k : Int) < (n : Int)) := by omega
      have d3 : ((k : Int) < 6) := by omega
      obtain ⟨bn, on, rfl, hbn, hcn⟩ := HN.out.resolve_left (by omega)
      obtain ⟨c0', hsz⟩ := hcn k hlt
      have c0 := (hB.cell (p := ⟨bn, on + k, none⟩) hbn).trans c0'
      have hbnw : bn < wr.heap.size := Nat.lt_of_lt_of_le hbn hB.size
      have cN := fun W => name_any (q k) W hsz
      clear c0' hcn hsz
      by_cases hne : nErr (q k).data.toList = 0
      · rw [hne, errV_0] at cN
        have hqb : q k = bs (q k).toList := (bs_self _).symm
        rw [← Lib.toList_data] at hne
        have hl8 := name_len hne
        generalize (q k).toList = kd at hqb hne hl8
        rw [hqb] at c0 cN
        have HNE := Lib.hid hne
        have htl := askT_len HE.out (by have := HLK.out; omega)
        clear hne hqb hB
        have hwi : IntKind.i64.wrap ((k : Int) + 1) = (k : Int) + 1 := by rw [IntKind.wrap_i64]; omega
        by_cases hL0 : L = []
        · subst hL0
          obtain ⟨z, HZ, _, kz⟩ := catX (askT []) kd (by omega) (by omega)
          have HZ2 : Hid (z = askT ([] ++ [⟨[], false, kd⟩])) := by show _ = _; rw [HZ.out, List.nil_append, askT_first]; rfl
          have HOK : Hid (OkS (decide (([] : List St).length = 0)) ⟨[], false, kd⟩) := ⟨HNE.out, fun _ => ⟨rfl, rfl⟩, fun h => by simp at h⟩
          have hcell : ∀ o, (wr.alloc o).cell? ⟨bn, on + k, none⟩ = some (.string (bs kd)) := cell_old c0
          have hcell2 : ∀ o o', ((wr.alloc o).alloc o').cell? ⟨bn, on + k, none⟩ = some (.string (bs kd)) := fun o o' => cell_old (cell_old c0 o) o'
          have HW : Hid (∀ w1 : World, ((wr.alloc (.cells #[.string ⟨#[]⟩, .bool false, .string (bs kd), .slice none 0 0] 30)).alloc (.cells #[.string ⟨#[]⟩, .bool false, .string (bs kd), .slice none 0 0] 30)).grownBy w1 (Value.slice al 0 cl).ownBlock → w1.cell? ⟨bn, on + k, none⟩ = some (.string (bs kd))) := fun w1 hg => by
            exact hg.cell (hcell2 _ _) (fun e => by have := (HO.out.lt bn e.symm).1; omega)
          clear HZ htl hcell hcell2
          go_wp2_with (first | (go_at_call 4; refine (cN _).mono ?_; rintro e w' ⟨rfl, hw'⟩; obtain rfl := hw'.symm) | (at_builtin; refine wpList_append_own _ rfl (.tmp 53) (.tmp 55) 24 rfl w.heap.size 30 i0 _ 4 64 Tryd.underlying24 hi0 hz0 hz1 hz2 rfl (by decide) (.slice al 0 cl) 0 [] rfl ((HO.out.alloc _).alloc _) ⟨wr.heap.size + 1, 0, none⟩ 1 1 [.string ⟨#[]⟩, .bool false, .string (bs kd), .slice none 0 0] rfl rfl (by have := new_at (wr.alloc (.cells #[.string ⟨#[]⟩, .bool false, .string (bs kd), .slice none 0 0] 30)) [.string ⟨#[]⟩, .bool false, .string (bs kd), .slice none 0 0] 30; rw [World.size_alloc] at this; exact this) (by simp [Value.oneCell']) (by decide) (by decide) (by have := HB.out.size; simp; omega) ?_; intro v1 w1 hown hgrow _; have hcw := HW.out w1 hgrow))
          have R : AsI w v1 (.string (bs z)) (.int .i64 ((k : Int) + 1)) w1 := asI_step (wr := wr) h6 HLK.out HE.out HOK.out (b_alloc HB.out _) (HO.out.alloc _) HZ2.out _ hown hgrow
          refine ⟨?_, ?_⟩
          · first | exact R | ((repeat apply Exists.intro); refine ⟨?_, rfl⟩; exact R)
          · simp [intOf]; omega
        · have hLp : (0 : Int) < (L.length : Int) := by have := List.length_pos_iff.2 hL0; omega
          have hbnn : ¬ bn = wr.heap.size := by omega
          obtain ⟨bk, hbk⟩ : ∃ bk : Bool, (k < m ∧ ∃ bb ob, ab = some ⟨bb, ob, none⟩ ∧ ¬ bb = wr.heap.size ∧ wr.cell? ⟨bb, ob + k, none⟩ = some (.bool bk)) ∨ (¬ k < m ∧ bk = false) := by
            by_cases hkm : k < m
            · obtain ⟨bb, ob, rfl, hbb, hcb⟩ := HBB.out.resolve_left (by omega)
              exact ⟨B k, .inl ⟨hkm, bb, ob, rfl, by have := HB.out.size; omega, (HB.out.cell (p := ⟨bb, ob + k, none⟩) hbb).trans (hcb k hkm)⟩⟩
            · exact ⟨false, .inr ⟨hkm, rfl⟩⟩
          obtain ⟨z0, HZ0, lz0, kz0⟩ := catX (askT L) (arw bk) (by omega) (by cases bk <;> decide)
          obtain ⟨z, HZ, _, kz⟩ := catX z0 kd (by rw [lz0]; have : (arw bk).length = 6 := by cases bk <;> rfl
                                                  omega) (by omega)
          have HZ2 : Hid (z = askT (L ++ [⟨[112], bk, kd⟩])) := by show _ = _; rw [HZ.out, HZ0.out, askT_next hL0]
          have HOK : Hid (OkS (decide (L.length = 0)) ⟨[112], bk, kd⟩) := ⟨HNE.out, fun h => by simp at h; exact absurd h hL0, fun _ => rfl⟩
          clear HZ HZ0 htl lz0
          have HM : Hid (L.length + 1 ≤ maxLen ∧ (L.length + 1) * 64 ≤ 140737488355328) := ⟨by have := HLK.out; unfold maxLen; omega, by have := HLK.out; omega⟩
          rcases hbk with ⟨hkm, bb, ob, rfl, hbb, cB⟩ | ⟨hkm, rfl⟩
          · have e1 : ((k : Int) < (m : Int)) := by omega
            have hcB := cell_old cB
            cases bk with
            | true =>
              have HW : Hid (∀ w1 : World, ((wr.alloc (.cells #[.string ⟨#[112]⟩, .bool true, .string (bs kd), .slice none 0 0] 30)).alloc (.cells #[.string ⟨#[112]⟩, .bool true, .string (bs kd), .slice none 0 0] 30)).grownBy w1 (Value.slice al L.length cl).ownBlock → w1.cell? ⟨bn, on + k, none⟩ = some (.string (bs kd))) := fun w1 hg =>
                hg.cell (cell_old (cell_old c0 _) _) (fun e => by have := (HO.out.lt bn e.symm).1; omega)
              rw [show bs (arw true) = ⟨#[32, 60, 45, 112, 45, 32]⟩ from rfl] at kz0
              go_wp2_with (first | (go_at_call 4; refine (cN _).mono ?_; rintro e w' ⟨rfl, hw'⟩; obtain rfl := hw'.symm) | (at_builtin; refine wpList_append_own _ rfl (.tmp 53) (.tmp 55) 24 rfl w.heap.size 30 i0 _ 4 64 Tryd.underlying24 hi0 hz0 hz1 hz2 rfl (by decide) (.slice al L.length cl) L.length (cellsS L) rfl ((HO.out.alloc _).alloc _) ⟨wr.heap.size + 1, 0, none⟩ 1 1 [.string ⟨#[112]⟩, .bool true, .string (bs kd), .slice none 0 0] rfl rfl (by have := new_at (wr.alloc (.cells #[.string ⟨#[112]⟩, .bool true, .string (bs kd), .slice none 0 0] 30)) [.string ⟨#[112]⟩, .bool true, .string (bs kd), .slice none 0 0] 30; rw [World.size_alloc] at this; exact this) (by simp [Value.oneCell']) HM.out.1 HM.out.2 (by have := HB.out.size; simp; omega) ?_; intro v1 w1 hown hgrow _; have hcw := HW.out w1 hgrow))
              have R : AsI w v1 (.string (bs z)) (.int .i64 ((k : Int) + 1)) w1 := asI_step (wr := wr) h6 HLK.out HE.out HOK.out (b_alloc HB.out _) (HO.out.alloc _) HZ2.out _ hown hgrow
              refine ⟨?_, ?_⟩
              · first | exact R | ((repeat apply Exists.intro); refine ⟨?_, rfl⟩; exact R)
              · simp [intOf]; omega
            | false =>
              have HW : Hid (∀ w1 : World, ((wr.alloc (.cells #[.string ⟨#[112]⟩, .bool false, .string (bs kd), .slice none 0 0] 30)).alloc (.cells #[.string ⟨#[112]⟩, .bool false, .string (bs kd), .slice none 0 0] 30)).grownBy w1 (Value.slice al L.length cl).ownBlock → w1.cell? ⟨bn, on + k, none⟩ = some (.string (bs kd))) := fun w1 hg =>
                hg.cell (cell_old (cell_old c0 _) _) (fun e => by have := (HO.out.lt bn e.symm).1; omega)
              rw [show bs (arw false) = ⟨#[32, 45, 112, 45, 62, 32]⟩ from rfl] at kz0
              go_wp2_with (first | (go_at_call 4; refine (cN _).mono ?_; rintro e w' ⟨rfl, hw'⟩; obtain rfl := hw'.symm) | (at_builtin; refine wpList_append_own _ rfl (.tmp 53) (.tmp 55) 24 rfl w.heap.size 30 i0 _ 4 64 Tryd.underlying24 hi0 hz0 hz1 hz2 rfl (by decide) (.slice al L.length cl) L.length (cellsS L) rfl ((HO.out.alloc _).alloc _) ⟨wr.heap.size + 1, 0, none⟩ 1 1 [.string ⟨#[112]⟩, .bool false, .string (bs kd), .slice none 0 0] rfl rfl (by have := new_at (wr.alloc (.cells #[.string ⟨#[112]⟩, .bool false, .string (bs kd), .slice none 0 0] 30)) [.string ⟨#[112]⟩, .bool false, .string (bs kd), .slice none 0 0] 30; rw [World.size_alloc] at this; exact this) (by simp [Value.oneCell']) HM.out.1 HM.out.2 (by have := HB.out.size; simp; omega) ?_; intro v1 w1 hown hgrow _; have hcw := HW.out w1 hgrow))
              have R : AsI w v1 (.string (bs z)) (.int .i64 ((k : Int) + 1)) w1 := asI_step (wr := wr) h6 HLK.out HE.out HOK.out (b_alloc HB.out _) (HO.out.alloc _) HZ2.out _ hown hgrow
              refine ⟨?_, ?_⟩
              · first | exact R | ((repeat apply Exists.intro); refine ⟨?_, rfl⟩; exact R)
              · simp [intOf]; omega
          · have e1 : ¬ ((k : Int) < (m : Int)) := by omega
            have HW : Hid (∀ w1 : World, ((wr.alloc (.cells #[.string ⟨#[112]⟩, .bool false, .string (bs kd), .slice none 0 0] 30)).alloc (.cells #[.string ⟨#[112]⟩, .bool false, .string (bs kd), .slice none 0 0] 30)).grownBy w1 (Value.slice al L.length cl).ownBlock → w1.cell? ⟨bn, on + k, none⟩ = some (.string (bs kd))) := fun w1 hg =>
              hg.cell (cell_old (cell_old c0 _) _) (fun e => by have := (HO.out.lt bn e.symm).1; omega)
            rw [show bs (arw false) = ⟨#[32, 45, 112, 45, 62, 32]⟩ from rfl] at kz0
            go_wp2_with (first | (go_at_call 4; refine (cN _).mono ?_; rintro e w' ⟨rfl, hw'⟩; obtain rfl := hw'.symm) | (at_builtin; refine wpList_append_own _ rfl (.tmp 53) (.tmp 55) 24 rfl w.heap.size 30 i0 _ 4 64 Tryd.underlying24 hi0 hz0 hz1 hz2 rfl (by decide) (.slice al L.length cl) L.length (cellsS L) rfl ((HO.out.alloc _).alloc _) ⟨wr.heap.size + 1, 0, none⟩ 1 1 [.string ⟨#[112]⟩, .bool false, .string (bs kd), .slice none 0 0] rfl rfl (by have := new_at (wr.alloc (.cells #[.string ⟨#[112]⟩, .bool false, .string (bs kd), .slice none 0 0] 30)) [.string ⟨#[112]⟩, .bool false, .string (bs kd), .slice none 0 0] 30; rw [World.size_alloc] at this; exact this) (by simp [Value.oneCell']) HM.out.1 HM.out.2 (by have := HB.out.size; simp; omega) ?_; intro v1 w1 hown hgrow _; have hcw := HW.out w1 hgrow))
            have R : AsI w v1 (.string (bs z)) (.int .i64 ((k : Int) + 1)) w1 := asI_step (wr := wr) h6 HLK.out HE.out HOK.out (b_alloc HB.out _) (HO.out.alloc _) HZ2.out _ hown hgrow
            refine ⟨?_, ?_⟩
            · first | exact R | ((repeat apply Exists.intro); refine ⟨?_, rfl⟩; exact R)
            · simp [intOf]; omega
      · rw [errV_ne hne] at cN
        generalize nErr (q k).data.toList = z at cN
        have hwi : IntKind.i64.wrap ((k : Int) + 1) = (k : Int) + 1 := by rw [IntKind.wrap_i64]; omega
        clear hne hB
        go_wp2_with (go_at_call 4; refine (cN _).mono ?_; rintro e w' ⟨rfl, hw'⟩; obtain rfl := hw'.symm)
        have R : AsI w (.slice al L.length cl) (.string (bs (askT L))) (.int .i64 ((k : Int) + 1)) wr := ⟨k + 1, L, h6, by simp, rfl, HO.out, by have := HLK.out; omega, HE.out, HB.out⟩
        refine ⟨?_, ?_⟩
        · first | exact R | ((repeat apply Exists.intro); refine ⟨?_, rfl⟩; exact R)
        · simp [intOf]; omega
    · by_cases hL0 : L = []
      · subst hL0
        have cE := error_gen 5 5 wr (hndOn HG.out HB.out)
        rw [show errV 5 = .iface 37 (.int .i64 5) from rfl, show ((5 : Int) == 5) = true from rfl] at cE
        clear hB
        by_cases hkn : k < n
        · have d2 : ((k : Int) < (n : Int)) := by omega
          have d3 : ¬ ((k : Int) < 6) := by omega
          clear hlt
          go_wp2_with (first | (go_at_call 5; refine (print_none al cl _).mono ?_; rintro e w' ⟨rfl, hw'⟩; obtain rfl := hw'.symm) | (go_at_call 6; refine cE.mono ?_; rintro e W5 ⟨rfl, hB5⟩))
          go_ret
          exact ⟨rfl, on1 HB.out hB5⟩
        · have d2 : ¬ ((k : Int) < (n : Int)) := by omega
          clear hlt
          go_wp2_with (first | (go_at_call 5; refine (print_none al cl _).mono ?_; rintro e w' ⟨rfl, hw'⟩; obtain rfl := hw'.symm) | (go_at_call 6; refine cE.mono ?_; rintro e W5 ⟨rfl, hB5⟩))
          go_ret
          exact ⟨rfl, on1 HB.out hB5⟩
      · have hLp : 0 < L.length := List.length_pos_iff.2 hL0
        have hL1 : ((L.length : Int) == 0) = false := by rw [beq_eq_false_iff_ne]; omega
        obtain ⟨g, c, hv, hgl, hLS⟩ := own_liesS HO.out hLp
        injection hv with e1 e2 e3
        subst e1 e3
        have cP := print_ok (c := cl) hgl hLS ⟨hLp, by have := HLK.out; omega, HE.out⟩
        generalize askT L = T at cP ⊢
        clear hB e2 hLS
        by_cases hkn : k < n
        · have d2 : ((k : Int) < (n : Int)) := by omega
          have d3 : ¬ ((k : Int) < 6) := by omega
          clear hlt
          go_wp2_with (go_at_call 5; refine cP.mono ?_; rintro e W4 ⟨rfl, hB4⟩)
          go_ret
          exact ⟨ret_bool (by simp), on1 HB.out hB4⟩
        · have d2 : ¬ ((k : Int) < (n : Int)) := by omega
          clear hlt
          go_wp2_with (go_at_call 5; refine cP.mono ?_; rintro e W4 ⟨rfl, hB4⟩)
          go_ret
          exact ⟨ret_bool (by simp), on1 HB.out hB4⟩
end Go.Proofs.YtenadbfedbjefaaDoor
