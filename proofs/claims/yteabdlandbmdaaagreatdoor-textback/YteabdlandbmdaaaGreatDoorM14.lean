/-
  The walk of record.Parse.
-/
import Derived.Test.YteabdlandbmdaaaGreatDoorM13
namespace Go.Proofs.YteabdlandbmdaaaGreatDoor
open Go.RowKit
set_option linter.unusedVariables false
set_option linter.unusedSimpArgs false

def PL (w : World) (s0 : List UInt8) (txt acc more : Value) (wr : World) : Prop :=
  ∃ (n : Nat) (s : ByteArray) (mb : Bool) (A : List Pr), txt = .string s ∧ more = .bool mb ∧ s.size ≤ 140737488355328 ∧ A.length ≤ 9 ∧ wr.ownsRow w.heap.size 33 4 acc A.length (cellsOf A) ∧ Below w.heap.size w wr ∧
    ((mb = true ∧ s.data.toList.length < n ∧ prs (s0.length + 1) s0 [] = prs n s.data.toList A) ∨ (mb = false ∧ prs (s0.length + 1) s0 [] = some A))
def tlen : Value → Value → Nat
  | .string s, .bool true => s.size + 1
  | _, _ => 0

theorem prs_none {n : Nat} {t : List UInt8} {acc : List Pr} (h : propL (cutW false t).1 = none) : prs (n + 1) t acc = none := by simp only [prs, h]
theorem prs_last {n : Nat} {t : List UInt8} {acc : List Pr} {p : Pr} (h : propL (cutW false t).1 = some p) (h2 : (cutW false t).2 = none) : prs (n + 1) t acc = some (if acc.length ≤ 8 then acc ++ [p] else acc) := by simp only [prs, h, h2]
theorem prs_more {n : Nat} {t : List UInt8} {acc : List Pr} {p : Pr} {r : List UInt8} (h : propL (cutW false t).1 = some p) (h2 : (cutW false t).2 = some r) : prs (n + 1) t acc = prs n r (if acc.length ≤ 8 then acc ++ [p] else acc) := by simp only [prs, h, h2]
theorem cutW_len (t : List UInt8) : (cutW false t).1.length ≤ t.length := by
  obtain ⟨h1, h2⟩ := cutW_join t false
  cases h : (cutW false t).2 with
  | none => exact Nat.le_of_eq (by rw [← h2 h])
  | some r => have := (h1 r h).1; have e := congrArg List.length this; simp at e; omega
theorem name_len' {l : List UInt8} (h : nErr l = 0) : l.length ≤ 8 := by
  unfold nErr at h
  split at h
  · exact absurd h (by decide)
  · split at h
    · exact absurd h (by decide)
    · omega
theorem val_len' {t n : Int} {l : List UInt8} (h : vErr t n l = 0) : l.length ≤ 20 := by
  have ht : t = 1 ∨ t = 2 ∨ t = 3 := by
    unfold vErr at h; split at h
    · assumption
    · exact absurd h (by decide)
  have hr : inR t n = true := by
    unfold vErr at h; rw [if_pos ht] at h; split at h
    · assumption
    · exact absurd h (by decide)
  unfold vErr at h; rw [if_pos ht, if_pos hr] at h
  split at h
  · unfold tErr at h; split at h
    · exact absurd h (by decide)
    · omega
  · split at h
    · rename_i hl; rw [hl]; decide
    · exact absurd h (by decide)
def ParPost (w : World) (t : List UInt8) (e : Ending) (w' : World) : Prop :=
  Below w.heap.size w w' ∧
  (∀ M, readR t = some M → rErr M = 0 → ∃ ao cp, e = .returned (.tuple #[.slice ao M.length cp, .nilIface]) ∧ w'.ownsRow w.heap.size 33 4 (.slice ao M.length cp) M.length (cellsOf M)) ∧
  ((readR t = none ∨ ∃ M, readR t = some M ∧ ¬ rErr M = 0) → ∃ ee, ¬ ee = 0 ∧ e = .returned (.tuple #[.slice none 0 0, .iface 49 (.int .i64 ee)]))
theorem prs_sz : ∀ (n : Nat) (t : List UInt8) (acc M : List Pr), t.length ≤ 140737488355328 → prs n t acc = some M → Sz acc → Sz M := by
  intro n
  induction n with
  | zero => intro t acc M _ h; simp [prs] at h
  | succ n ih =>
    intro t acc M ht h hs
    cases hp : propL (cutW false t).1 with
    | none => rw [prs_none hp] at h; cases h
    | some p =>
      have hacc : Sz (if acc.length ≤ 8 then acc ++ [p] else acc) := by
        split
        · intro q hq
          rcases List.mem_append.1 hq with hq | hq
          · exact hs q hq
          · simp at hq; subst hq
            have hok := (prop_word hp).2
            refine ⟨?_, ?_⟩
            · have := name_len' hok.1
              have e : q.nm.size = q.l.length := size_len q.nm
              unfold maxLen; omega
            · have := val_len' hok.2
              have e : q.s.size = q.s.data.toList.length := size_len q.s
              unfold maxLen; omega
        · exact hs
      cases hr : (cutW false t).2 with
      | none => rw [prs_last hp hr] at h; obtain rfl := Option.some.inj h; exact hacc
      | some r =>
        rw [prs_more hp hr] at h
        exact ih r _ M (by have := ((cutW_join t false).1 r hr).2; omega) h hacc

set_option maxHeartbeats 4000000 in
set_option maxRecDepth 100000 in
theorem rparse_dash (w : World) : Calls Tryz.prog 38 #[.string ⟨#[45]⟩] w (ParPost w [45]) := by
  go_enter Tryz.func38, Tryz.ntmps38
  go_wp2
  go_ret2
  refine ⟨Below.refl _ _, fun M hM _ => ?_, fun h => ?_⟩
  · have hM' : some [] = some M := hM
    obtain rfl := Option.some.inj hM'
    exact ⟨none, 0, rfl, World.ownsRow_nil _ _ _ _⟩
  · rcases h with h | ⟨M, h1, h2⟩
    · cases h
    · have hM' : some [] = some M := h1
      obtain rfl := Option.some.inj hM'
      exact absurd rfl h2
theorem arr_list (r : List UInt8) : (⟨r.toArray⟩ : ByteArray).data.toList = r := by simp
theorem arr_size (r : List UInt8) : (⟨r.toArray⟩ : ByteArray).size = r.length := by show r.toArray.size = _; simp
theorem own_on2 {w w0 : World} {base : Nat} {e : TypeId} {size : Nat} {v : Value} {n : Nat} {xs : List Value} (h : w.ownsRow base e size v n xs) (hB : Below w.heap.size w w0) : w0.ownsRow base e size v n xs := by
  refine ⟨h.1, ?_⟩
  rcases h.2 with hn | ⟨g, cap, cur, hv, hb, hg, rest⟩
  · exact .inl hn
  · exact .inr ⟨g, cap, cur, hv, hb, by rw [hB.block g (Array.getElem?_eq_some_iff.1 hg).1]; exact hg, rest⟩
theorem cells_new2 (w0 : World) (p : Pr) : ∀ j u, p.cells[j]? = some u → ((w0.alloc (.cells #[.string p.nm, .int .i64 p.t, .int .i64 p.n, .string p.s] 33)).alloc (.cells #[.string p.nm, .int .i64 p.t, .int .i64 p.n, .string p.s] 33)).cell? ((⟨w0.heap.size + 1, 0, none⟩ : Addr).add j) = some u := by
  have := cells_new (w0.alloc (.cells #[.string p.nm, .int .i64 p.t, .int .i64 p.n, .string p.s] 33)) p
  simpa using this
set_option maxHeartbeats 8000000 in
set_option maxRecDepth 100000 in
theorem rparse_rest (s0 : ByteArray) (w : World) (hs0 : s0.size ≤ 140737488355328) (hne : ¬ s0.data.toList = [45]) : Calls Tryz.prog 38 #[.string s0] w (ParPost w s0.data.toList) := by
  obtain ⟨i0, hi0, hz0, hz1, hz2⟩ := info_parts info33
  have hb45 : (s0.toList == [45]) = false := by rw [Lib.toList_data]; simpa using hne
  have HR : Hid (readR s0.data.toList = prs (s0.data.toList.length + 1) s0.data.toList []) := by
    show _ = _
    unfold readR; rw [if_neg hne]
  clear hne
  go_enter Tryz.func38, Tryz.ntmps38
  go_wp2
  go_loopw [0, 4, 5] (fun txt acc more wr => PL w s0.data.toList txt acc more wr) (fun txt _ more _ => tlen txt more)
  case atStart => exact ⟨s0.data.toList.length + 1, s0, true, [], rfl, rfl, hs0, by simp, World.ownsRow_nil _ _ _ _, Below.refl _ _, .inl ⟨rfl, by omega, rfl⟩⟩
  case round =>
    obtain ⟨n, s, mb, A, rfl, rfl, hs, hA9, hown, hB, hst⟩ := hrel
    have HO : Hid (wr.ownsRow w.heap.size 33 4 u4 A.length (cellsOf A)) := hown
    have HB : Hid (Below w.heap.size w wr) := hB
    have hbase := hB.size
    clear hown
    rcases hst with ⟨rfl, hlen, hprs⟩ | ⟨rfl, hprs⟩
    · obtain ⟨n, rfl⟩ : ∃ m, n = m + 1 := ⟨n - 1, by omega⟩
      have cw := cutWord_any s wr hs
      have hwl := cutW_len s.data.toList
      have hsl := size_len s
      have cp := fun w => parseProp_any ⟨(cutW false s.data.toList).1.toArray⟩ w (by show (cutW false s.data.toList).1.toArray.size ≤ _; simp; omega)
      have ea : (⟨(cutW false s.data.toList).1.toArray⟩ : ByteArray).data.toList = (cutW false s.data.toList).1 := by simp
      rw [ea] at cp
      unfold cutV at cw
      cases hp : propL (cutW false s.data.toList).1 with
      | none =>
        rw [hp] at cp
        have HN : Hid (readR s0.data.toList = none) := by
          show _ = _
          rw [HR.out, hprs, prs_none hp]
        clear hprs hlen hwl hsl ea
        generalize (cutW false s.data.toList).1 = wd at cw cp hp
        generalize (cutW false s.data.toList).2 = rs at cw
        clear hp
        unfold propV at cp
        go_wp2_with (go_at_call 53; refine cw.mono ?_; rintro e W1 ⟨rfl, hB1⟩; refine Hid.out ?_)
        refine Lib.hid ?_
        go_wp2_with (go_at_call 54; refine (cp _).mono ?_; rintro e W2 ⟨rfl, hB2⟩; refine Hid.out ?_)
        refine Lib.hid ?_
        have hB3 := on1B hB (on1B hB1 hB2)
        clear cw cp
        go_wp2
        go_ret2
        refine ⟨b_alloc hB3 _, fun M hM _ => ?_, fun _ => ⟨2, by decide, rfl⟩⟩
        rw [HN.out] at hM; cases hM
      | some p =>
        rw [hp] at cp
        have cp' : ∀ w, Calls Tryz.prog 54 #[.string ⟨(cutW false s.data.toList).1.toArray⟩] w fun e w' => e = .returned (.tuple #[p.one, .bool true]) ∧ Below w.heap.size w w' := cp
        have HM : Hid (A.length + 1 ≤ maxLen ∧ (A.length + 1) * 48 ≤ 140737488355328) := by unfold maxLen; exact ⟨by omega, by omega⟩
        cases hr : (cutW false s.data.toList).2 with
        | none =>
          have HP : Hid (prs (s0.data.toList.length + 1) s0.data.toList [] = some (if A.length ≤ 8 then A ++ [p] else A)) := by
            show _ = _
            rw [hprs, prs_last hp hr]
          rw [hr] at cw
          simp only [Option.getD_none, Option.isSome_none] at cw
          clear hprs hlen hwl hsl ea hr cp
          generalize (cutW false s.data.toList).1 = wd at cw cp' hp
          clear hp
          by_cases h8 : A.length ≤ 8
          · have h8' : (A.length : Int) ≤ 8 := by omega
            go_wp2_with (go_at_call 53; refine cw.mono ?_; rintro e W1 ⟨rfl, hB1⟩; refine Hid.out ?_)
            refine Lib.hid ?_
            go_wp2_with (go_at_call 54; refine (cp' _).mono ?_; rintro e W2 ⟨rfl, hB2⟩; refine Hid.out ?_)
            refine Lib.hid ?_
            have hB3 := on1B hB1 hB2
            have HO2 : Hid (W2.ownsRow w.heap.size 33 4 u4 A.length (cellsOf A)) := own_on2 HO.out hB3
            have hB4 := on1B HB.out hB3
            have hsz := hB4.size
            obtain ⟨ao, cq, hu⟩ := own_sliceR HO2.out
            subst hu
            clear cw cp'
            go_wp2_with (at_builtin; refine wpList_append_own _ rfl (.tmp 30) (.tmp 32) 35 rfl w.heap.size 33 i0 _ 4 48 Tryz.underlying35 hi0 hz0 hz1 hz2 rfl (by decide) _ A.length (cellsOf A) rfl ((HO2.out.alloc _).alloc _) ⟨W2.heap.size + 1, 0, none⟩ 1 1 p.cells rfl rfl (cells_new2 W2 p) (cells_one p) HM.out.1 HM.out.2 (by simp; omega) ?_; intro v2 w2 hown2 hgrow2 _; refine Hid.out ?_)
            refine Lib.hid ?_
            have R' : Hid (PL w s0.data.toList (.string ⟨#[]⟩) v2 (.bool false) w2) :=
              ⟨0, ⟨#[]⟩, false, A ++ [p], rfl, rfl, by show (0 : Nat) ≤ _; omega, by simp; omega, by rw [cellsOf_snoc]; simpa using hown2, (b_alloc (b_alloc hB4 _) _).grown hgrow2 (b_alloc (b_alloc hB4 _) _).size (fun k hk => (HO2.out.lt k hk).1), .inr ⟨rfl, by rw [HP.out, if_pos h8]⟩⟩
            clear hown2
            go_wp2
            refine ⟨?_, ?_⟩
            · first
                | exact R'.out
                | ((repeat apply Exists.intro)
                   refine ⟨?_, rfl⟩
                   exact R'.out)
            · simp [tlen]; try omega
          · have h8' : ¬ (A.length : Int) ≤ 8 := by omega
            go_wp2_with (go_at_call 53; refine cw.mono ?_; rintro e W1 ⟨rfl, hB1⟩; refine Hid.out ?_)
            refine Lib.hid ?_
            go_wp2_with (go_at_call 54; refine (cp' _).mono ?_; rintro e W2 ⟨rfl, hB2⟩; refine Hid.out ?_)
            refine Lib.hid ?_
            have hB3 := on1B hB1 hB2
            have HO2 : Hid (W2.ownsRow w.heap.size 33 4 u4 A.length (cellsOf A)) := own_on2 HO.out hB3
            have hB4 := on1B HB.out hB3
            obtain ⟨ao, cq, hu⟩ := own_sliceR HO2.out
            subst hu
            have R' : Hid (PL w s0.data.toList (.string ⟨#[]⟩) (.slice ao A.length cq) (.bool false) (W2.alloc (.cells #[.string p.nm, .int .i64 p.t, .int .i64 p.n, .string p.s] 33))) :=
              ⟨0, ⟨#[]⟩, false, A, rfl, rfl, by show (0 : Nat) ≤ _; omega, hA9, HO2.out.alloc _, b_alloc hB4 _, .inr ⟨rfl, by rw [HP.out, if_neg h8]⟩⟩
            clear cw cp'
            go_wp2
            refine ⟨?_, ?_⟩
            · first
                | exact R'.out
                | ((repeat apply Exists.intro)
                   refine ⟨?_, rfl⟩
                   exact R'.out)
            · simp [tlen]; try omega
        | some r =>
          have HP : Hid (prs (s0.data.toList.length + 1) s0.data.toList [] = prs n r (if A.length ≤ 8 then A ++ [p] else A)) := by
            show _ = _
            rw [hprs, prs_more hp hr]
          have hrl := ((cutW_join s.data.toList false).1 r hr).2
          have hrs : (⟨r.toArray⟩ : ByteArray).data.toList = r := by simp
          have hrz : (⟨r.toArray⟩ : ByteArray).size = r.length := by show r.toArray.size = _; simp
          rw [hr] at cw
          simp only [Option.getD_some, Option.isSome_some] at cw
          clear hprs hwl ea hr cp
          generalize (cutW false s.data.toList).1 = wd at cw cp' hp
          clear hp
          by_cases h8 : A.length ≤ 8
          · have h8' : (A.length : Int) ≤ 8 := by omega
            have HL : Hid (r.length < s.data.toList.length ∧ s.data.toList.length < n + 1 ∧ s.size = s.data.toList.length) := ⟨hrl, hlen, hsl⟩
            clear hrl hlen hsl hrs hrz
            go_wp2_with (go_at_call 53; refine cw.mono ?_; rintro e W1 ⟨rfl, hB1⟩; refine Hid.out ?_)
            refine Lib.hid ?_
            go_wp2_with (go_at_call 54; refine (cp' _).mono ?_; rintro e W2 ⟨rfl, hB2⟩; refine Hid.out ?_)
            refine Lib.hid ?_
            have hB3 := on1B hB1 hB2
            have HO2 : Hid (W2.ownsRow w.heap.size 33 4 u4 A.length (cellsOf A)) := own_on2 HO.out hB3
            have hB4 := on1B HB.out hB3
            have hsz := hB4.size
            obtain ⟨ao, cq, hu⟩ := own_sliceR HO2.out
            subst hu
            clear cw cp'
            go_wp2_with (at_builtin; refine wpList_append_own _ rfl (.tmp 30) (.tmp 32) 35 rfl w.heap.size 33 i0 _ 4 48 Tryz.underlying35 hi0 hz0 hz1 hz2 rfl (by decide) _ A.length (cellsOf A) rfl ((HO2.out.alloc _).alloc _) ⟨W2.heap.size + 1, 0, none⟩ 1 1 p.cells rfl rfl (cells_new2 W2 p) (cells_one p) HM.out.1 HM.out.2 (by simp; omega) ?_; intro v2 w2 hown2 hgrow2 _; refine Hid.out ?_)
            refine Lib.hid ?_
            have R' : Hid (PL w s0.data.toList (.string ⟨r.toArray⟩) v2 (.bool true) w2) :=
              ⟨n, ⟨r.toArray⟩, true, A ++ [p], rfl, rfl, by rw [arr_size]; have := HL.out; omega, by simp; omega, by rw [cellsOf_snoc]; simpa using hown2, (b_alloc (b_alloc hB4 _) _).grown hgrow2 (b_alloc (b_alloc hB4 _) _).size (fun k hk => (HO2.out.lt k hk).1), .inl ⟨rfl, by rw [arr_list]; have := HL.out; omega, by rw [HP.out, if_pos h8, arr_list]⟩⟩
            clear hown2
            go_wp2
            refine ⟨?_, ?_⟩
            · first
                | exact R'.out
                | ((repeat apply Exists.intro)
                   refine ⟨?_, rfl⟩
                   exact R'.out)
            · have hz := arr_size r; have hh := HL.out; simp [tlen, hz]; omega
          · have h8' : ¬ (A.length : Int) ≤ 8 := by omega
            have HL : Hid (r.length < s.data.toList.length ∧ s.data.toList.length < n + 1 ∧ s.size = s.data.toList.length) := ⟨hrl, hlen, hsl⟩
            clear hrl hlen hsl hrs hrz
            go_wp2_with (go_at_call 53; refine cw.mono ?_; rintro e W1 ⟨rfl, hB1⟩; refine Hid.out ?_)
            refine Lib.hid ?_
            go_wp2_with (go_at_call 54; refine (cp' _).mono ?_; rintro e W2 ⟨rfl, hB2⟩; refine Hid.out ?_)
            refine Lib.hid ?_
            have hB3 := on1B hB1 hB2
            have HO2 : Hid (W2.ownsRow w.heap.size 33 4 u4 A.length (cellsOf A)) := own_on2 HO.out hB3
            have hB4 := on1B HB.out hB3
            obtain ⟨ao, cq, hu⟩ := own_sliceR HO2.out
            subst hu
            have R' : Hid (PL w s0.data.toList (.string ⟨r.toArray⟩) (.slice ao A.length cq) (.bool true) (W2.alloc (.cells #[.string p.nm, .int .i64 p.t, .int .i64 p.n, .string p.s] 33))) :=
              ⟨n, ⟨r.toArray⟩, true, A, rfl, rfl, by rw [arr_size]; have := HL.out; omega, hA9, HO2.out.alloc _, b_alloc hB4 _, .inl ⟨rfl, by rw [arr_list]; have := HL.out; omega, by rw [HP.out, if_neg h8, arr_list]⟩⟩
            clear cw cp'
            go_wp2
            refine ⟨?_, ?_⟩
            · first
                | exact R'.out
                | ((repeat apply Exists.intro)
                   refine ⟨?_, rfl⟩
                   exact R'.out)
            · have hz := arr_size r; have hh := HL.out; simp [tlen, hz]; omega
    · have hI := own_isRec HO.out
      have hSz : Sz A := prs_sz _ _ _ _ (by rw [← size_len]; exact hs0) hprs (fun q hq => by simp at hq)
      have c1 := rcheck_any hI hSz (by unfold maxLen; omega)
      have HN : Hid (readR s0.data.toList = some A) := by
        show _ = _
        rw [HR.out, hprs]
      have HI : Hid (IsRec wr u4 A) := hI
      clear hprs hI hSz
      by_cases he : rErr A = 0
      · rw [he, errV_0] at c1
        obtain ⟨ao, cq, hu⟩ := own_sliceR HO.out
        subst hu
        go_wp2_with (go_at_call 27; refine c1.mono ?_; rintro e W1 ⟨rfl, hB1⟩)
        go_ret2
        refine ⟨on1B hB hB1, fun M hM _ => ?_, fun h => ?_⟩
        · obtain rfl := Option.some.inj (HN.out.symm.trans hM)
          exact ⟨ao, cq, rfl, own_on2 HO.out hB1⟩
        · rcases h with h | ⟨M, h1, h2⟩
          · rw [HN.out] at h; cases h
          · obtain rfl := Option.some.inj (HN.out.symm.trans h1)
            exact absurd he h2
      · rw [errV_ne he] at c1
        have HE : Hid (¬ rErr A = 0) := he
        clear he
        go_wp2_with (go_at_call 27; refine c1.mono ?_; rintro e W1 ⟨rfl, hB1⟩)
        go_ret2
        refine ⟨on1B hB hB1, fun M hM h0 => ?_, fun _ => ⟨rErr A, HE.out, rfl⟩⟩
        obtain rfl := Option.some.inj (HN.out.symm.trans hM)
        exact absurd h0 HE.out
theorem rparse_any (s : ByteArray) (w : World) (hs : s.size ≤ 140737488355328) : Calls Tryz.prog 38 #[.string s] w (ParPost w s.data.toList) := by
  by_cases h : s.data.toList = [45]
  · obtain rfl := list_eq h
    exact rparse_dash w
  · exact rparse_rest s w hs h
end Go.Proofs.YteabdlandbmdaaaGreatDoor
