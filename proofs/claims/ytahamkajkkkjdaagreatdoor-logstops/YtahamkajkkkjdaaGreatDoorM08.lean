import Derived.Test.YtahamkajkkkjdaaGreatDoorM07
namespace Go.Proofs.YtahamkajkkkjdaaGreatDoor
open Go.RowKit
set_option linter.unusedVariables false
set_option linter.unusedSimpArgs false
def fErr (o : Option (List Fd)) : Int := match o with
  | none => 7
  | some _ => 0
def FPost (w : World) (o : Option (List Fd)) (e : Ending) (w' : World) : Prop :=
  ∃ v, e = .returned (.tuple #[v, errV (fErr o)]) ∧ (∀ l, o = some l → w'.ownsRow w.heap.size 56 4 v l.length (cellsF l)) ∧ (o = none → v = .slice none 0 0) ∧ Below w.heap.size w w'
theorem insF_new {all : List Fd} {f : Fd} (h : fnd f.nm all = false) : insF all f = some (all.take (lo f.nm all) ++ f :: all.drop (lo f.nm all)) := by
  unfold fnd at h
  unfold insF
  split at h
  · rename_i g hg
    rw [hg]; simp only
    rw [if_neg (by rw [h]; decide)]
  · rename_i hg
    rw [hg]
theorem insF_old {all : List Fd} {f : Fd} (h : fnd f.nm all = true) : ∃ g, all[lo f.nm all]? = some g ∧ g.nm = f.nm ∧ insF all f = (if feq g f = true then some all else none) := by
  unfold fnd at h
  split at h
  · rename_i g hg
    refine ⟨g, hg, by simpa using h, ?_⟩
    unfold insF
    rw [hg]; simp only
    rw [if_pos h]
  · cases h
theorem IsS.sl {w : World} {v : Value} {l : List Nm} (h : IsS w v l) : ∃ ao n c, v = .slice ao n c := by
  rcases h with ⟨ao, c, rfl, _⟩ | ⟨b, off, cap, rfl, _⟩ <;> exact ⟨_, _, _, rfl⟩
theorem IsF.sl {w : World} {v : Value} {l : List Fd} (h : IsF w v l) : ∃ ao n c, v = .slice ao n c := by
  rcases h with ⟨ao, c, rfl, _⟩ | ⟨b, off, cap, rfl, _⟩ <;> exact ⟨_, _, _, rfl⟩
theorem own_below {w w' : World} {base : Nat} {e : TypeId} {size : Nat} {v : Value} {n : Nat} {xs : List Value} (h : w.ownsRow base e size v n xs) (hB : Below w.heap.size w w') : w'.ownsRow base e size v n xs := by
  refine ⟨h.1, ?_⟩
  rcases h.2 with h | ⟨g, cap, cur, hv, hg, hh, rest⟩
  · exact .inl h
  · exact .inr ⟨g, cap, cur, hv, hg, (hB.block g (Array.getElem?_eq_some_iff.1 hh).1).trans hh, rest⟩
def FR (w : World) (K : List Kd) (v5 i : Value) (wr : World) : Prop :=
  ∃ (k : Nat) (all : List Fd), k ≤ K.length ∧ i = .int .i64 k ∧ fieldsOf K = fOf all ((K.drop k).flatMap Kd.fs) ∧ Srt all ∧ all.length ≤ 8 * k ∧ wr.ownsRow w.heap.size 56 4 v5 all.length (cellsF all) ∧ Below w.heap.size w wr
def FI (w : World) (K : List Kd) (k : Nat) (p : Kd) (v5 i : Value) (wr : World) : Prop :=
  ∃ (j : Nat) (all : List Fd), j ≤ p.fs.length ∧ i = .int .i64 j ∧ fieldsOf K = fOf all (p.fs.drop j ++ (K.drop (k + 1)).flatMap Kd.fs) ∧ Srt all ∧ all.length ≤ 8 * k + j ∧ wr.ownsRow w.heap.size 56 4 v5 all.length (cellsF all) ∧ Below w.heap.size w wr
set_option maxHeartbeats 8000000 in
set_option maxRecDepth 100000 in
theorem fieldsOf_some (b off cap : Nat) (K : List Kd) (w : World) (hb : b < w.heap.size) (hL : LiesK w b off K) (hP : Parts w K) (hS : Small K) (hn : K.length ≤ 12) :
    Calls Tryz.prog 42 #[.slice (some ⟨b, off, none⟩) K.length cap] w (FPost w (fieldsOf K)) := by
  have HH : Hid (LiesK w b off K ∧ Parts w K ∧ Small K) := ⟨hL, hP, hS⟩
  clear hL hP hS
  go_enter Tryz.func42, Tryz.ntmps42
  go_wp2
  go_loopw [5, 14] (fun v5 i wr => FR w K v5 i wr) (fun _ i _ => K.length - (intOf i).toNat)
  case atStart => exact ⟨0, [], Nat.zero_le _, rfl, rfl, srt_nil, by simp, World.ownsRow_nil _ _ _ _, Below.refl _ _⟩
  case round =>
    obtain ⟨k, all, hk, rfl, h1, h2, h3, h4, hB⟩ := hrel
    have HR : Hid (fieldsOf K = fOf all ((K.drop k).flatMap Kd.fs) ∧ Srt all ∧ all.length ≤ 8 * k ∧ wr.ownsRow w.heap.size 56 4 u5 all.length (cellsF all) ∧ Below w.heap.size w wr) := ⟨h1, h2, h3, h4, hB⟩
    by_cases hlt : k < K.length
    · obtain ⟨p, hp⟩ : ∃ p, K[k]? = some p := ⟨K[k], by simp [hlt]⟩
      obtain ⟨c0, c1, c2⟩ := HH.out.1 k p hp
      have hpm : p ∈ K := List.mem_of_getElem? hp
      have d0 := (hB.cell (p := ⟨b, off + k * 3, none⟩) hb).trans c0
      have d1 := (hB.cell (p := ⟨b, off + k * 3 + 1, none⟩) hb).trans c1
      have d2 := (hB.cell (p := ⟨b, off + k * 3 + 2, none⟩) hb).trans c2
      have HP : Hid (K.drop k = p :: K.drop (k + 1) ∧ p.fs.length ≤ 8) := ⟨dropK hp, (HH.out.2.2 p hpm).2⟩
      have hvf := (HH.out.2.1 p hpm).2
      obtain ⟨ao, no, co, hvoe⟩ := (HH.out.2.1 p hpm).1.sl
      rw [hvoe] at d1
      clear c0 c1 c2 h1 h2 h3 h4 hpm hvoe
      rcases hvf with ⟨aof, cof, hnil, hfs, _⟩ | ⟨bf, of, cf, hsome, hcf, hcm, hbf, hlf⟩
      · rw [hnil] at d2
        have hFR : FR w K u5 (.int .i64 ((k + 1 : Nat) : Int)) (wr.alloc (.cells #[.string (bs p.nm), .slice ao no co, .slice aof 0 cof] 30)) := by
          obtain ⟨h1, h2, h3, h4, h5⟩ := HR.out
          refine ⟨k + 1, all, by omega, rfl, ?_, h2, by omega, h4.alloc _, b_allocKC h5 (Nat.le_refl _) _⟩
          rw [h1, HP.out.1, List.flatMap_cons, hfs]; rfl
        have HFR : Hid (FR w K u5 (.int .i64 ((k + 1 : Nat) : Int)) (wr.alloc (.cells #[.string (bs p.nm), .slice ao no co, .slice aof 0 cof] 30))) := hFR
        clear hFR HR hB hnil hfs
        go_wp2
        go_loopw [5, 21] (fun v i wx => v = u5 ∧ i = .int .i64 0 ∧ wx = wr.alloc (.cells #[.string (bs p.nm), .slice ao no co, .slice aof 0 cof] 30)) (fun _ _ _ => 0)
        case atStart => exact ⟨rfl, rfl, rfl⟩
        case round =>
          obtain ⟨rfl, rfl, rfl⟩ := hrel
          go_wp2
          refine ⟨?_, ?_⟩
          · first | exact HFR.out | ((repeat apply Exists.intro); refine ⟨?_, rfl⟩; exact HFR.out)
          · simp [intOf]
            try omega
      · rw [hsome] at d2
        have HL : Hid (LiesF w bf of p.fs ∧ bf < w.heap.size) := ⟨hlf, hbf⟩
        have hfl := HP.out.2
        have hFI : FI w K k p u5 (.int .i64 0) (wr.alloc (.cells #[.string (bs p.nm), .slice ao no co, .slice (some ⟨bf, of, none⟩) p.fs.length cf] 30)) := by
          obtain ⟨h1, h2, h3, h4, h5⟩ := HR.out
          refine ⟨0, all, Nat.zero_le _, rfl, ?_, h2, by omega, h4.alloc _, b_allocKC h5 (Nat.le_refl _) _⟩
          rw [h1, HP.out.1, List.flatMap_cons]; rfl
        have HFI : Hid (FI w K k p u5 (.int .i64 0) (wr.alloc (.cells #[.string (bs p.nm), .slice ao no co, .slice (some ⟨bf, of, none⟩) p.fs.length cf] 30))) := hFI
        clear hFI HR hB hlf hbf hsome
        go_wp2
        clear d0 d1 d2
        go_loopw [5, 21] (fun v i wx => FI w K k p v i wx) (fun _ i _ => p.fs.length - (intOf i).toNat)
        case atStart => exact HFI.out
        case round =>
          obtain ⟨j, al, hj, rfl, h1, h2, h3, h4, hB⟩ := hrel
          have HQ : Hid (fieldsOf K = fOf al (p.fs.drop j ++ (K.drop (k + 1)).flatMap Kd.fs) ∧ Srt al ∧ al.length ≤ 8 * k + j ∧ wr.ownsRow w.heap.size 56 4 u5 al.length (cellsF al) ∧ Below w.heap.size w wr) := ⟨h1, h2, h3, h4, hB⟩
          by_cases hjl : j < p.fs.length
          · obtain ⟨f, hf⟩ : ∃ f, p.fs[j]? = some f := ⟨p.fs[j], by simp [hjl]⟩
            obtain ⟨c0, c1, c2, c3⟩ := HL.out.1 j f hf
            have d0 := (hB.cell (p := ⟨bf, of + j * 4, none⟩) HL.out.2).trans c0
            have d1 := (hB.cell (p := ⟨bf, of + j * 4 + 1, none⟩) HL.out.2).trans c1
            have d2 := (hB.cell (p := ⟨bf, of + j * 4 + 2, none⟩) HL.out.2).trans c2
            have d3 := (hB.cell (p := ⟨bf, of + j * 4 + 3, none⟩) HL.out.2).trans c3
            have HD : Hid (p.fs.drop j = f :: p.fs.drop (j + 1)) := dropK hf
            have hal : al.length ≤ 95 := by omega
            have hB0 : Below w.heap.size w (wr.alloc (.cells #[.string (bs f.nm), .int .i64 f.t, .bool f.must, .bool f.key] 56)) := b_allocKC hB (Nat.le_refl _) _
            have ho0 : (wr.alloc (.cells #[.string (bs f.nm), .int .i64 f.t, .bool f.must, .bool f.key] 56)).ownsRow w.heap.size 56 4 u5 al.length (cellsF al) := h4.alloc _
            have cs := search_any (own_isF ho0) h2 (by omega) f
            have HO : Hid ((wr.alloc (.cells #[.string (bs f.nm), .int .i64 f.t, .bool f.must, .bool f.key] 56)).ownsRow w.heap.size 56 4 u5 al.length (cellsF al) ∧ Below w.heap.size w (wr.alloc (.cells #[.string (bs f.nm), .int .i64 f.t, .bool f.must, .bool f.key] 56)) ∧ al.length ≤ 95 ∧ lo f.nm al ≤ al.length) := ⟨ho0, hB0, hal, lo_le _ _⟩
            have hbr : bf < wr.heap.size := Nat.lt_of_lt_of_le HL.out.2 hB.size
            clear c0 c1 c2 c3 h1 h2 h3 h4 hf ho0 hal hB hB0
            cases hq : fnd f.nm al with
            | false =>
              rw [hq] at cs
              have HI : Hid (insF al f = some (al.take (lo f.nm al) ++ f :: al.drop (lo f.nm al))) := insF_new hq
              have HLo : Hid (lo f.nm al ≤ al.length) := lo_le _ _
              generalize lo f.nm al = q at cs HI HLo
              clear hq
              go_wp2_with (go_at_call 69; refine cs.mono ?_; rintro e W1 ⟨rfl, hB1⟩; refine Hid.out ?_)
              refine Lib.hid ?_
              have g0 := hB1.cell (p := ⟨wr.heap.size, 0, none⟩) (by simp)
              have g1 := hB1.cell (p := ⟨wr.heap.size, 1, none⟩) (by simp)
              have g2 := hB1.cell (p := ⟨wr.heap.size, 2, none⟩) (by simp)
              have g3 := hB1.cell (p := ⟨wr.heap.size, 3, none⟩) (by simp)
              simp at g0 g1 g2 g3
              have hBw : Below w.heap.size w W1 := on1KC HO.out.2.1 hB1 (Nat.le_refl _)
              have hoo : (W1.alloc (.cells #[.string (bs f.nm), .int .i64 f.t, .bool f.must, .bool f.key] 56)).ownsRow w.heap.size 56 4 u5 al.length (cellsF al) := (own_below HO.out.1 hB1).alloc _
              have ci := insert_any hoo q HLo.out W1.heap.size f (heap_alloc_new W1 _) (fun e => by have := ((own_below HO.out.1 hB1).lt _ e).2; omega) (Nat.le_trans hBw.size (by simp)) (by have := HO.out.2.2.1; omega)
              have HBW : Hid (Below w.heap.size w (W1.alloc (.cells #[.string (bs f.nm), .int .i64 f.t, .bool f.must, .bool f.key] 56))) := b_allocKC hBw (Nat.le_refl _) _
              clear cs d0 d1 d2 d3 hoo
              go_wp2_with (go_at_call 70; refine ci.mono ?_; rintro e W2 ⟨v2, rfl, hown, hbel⟩; refine Hid.out ?_)
              refine Lib.hid ?_
              have R : FI w K k p v2 (.int .i64 ((j + 1 : Nat) : Int)) W2 := by
                obtain ⟨h1, h2, h3, h4, h5⟩ := HQ.out
                obtain ⟨s1, s2, s3⟩ := insF_spec h2 f HI.out
                refine ⟨j + 1, _, by omega, rfl, ?_, s1, by omega, hown, hbel _ _ HBW.out (Nat.le_refl _)⟩
                rw [h1, HD.out, List.cons_append]
                conv => lhs; unfold fOf
                rw [HI.out]
              have HRR : Hid (FI w K k p v2 (.int .i64 ((j + 1 : Nat) : Int)) W2) := R
              clear R hown hbel ci
              go_wp2
              refine ⟨?_, ?_⟩
              · first | exact HRR.out | ((repeat apply Exists.intro); refine ⟨?_, rfl⟩; exact HRR.out)
              · simp [intOf]
                try omega
            | true =>
              rw [hq] at cs
              obtain ⟨g, hg, hnm, hins⟩ := insF_old hq
              have hql : lo f.nm al < al.length := (List.getElem?_eq_some_iff.1 hg).1
              rcases own_isF HO.out.1 with ⟨_, _, rfl, rfl, _⟩ | ⟨bg, og, cg, rfl, hcg, hcgm, hbg, hlg⟩
              · simp at hg
              · obtain ⟨m0, m1, m2, m3⟩ := hlg (lo f.nm al) g hg
                have hq95 : lo f.nm al < 95 := by have := HO.out.2.2.1; omega
                generalize lo f.nm al = q at cs m0 m1 m2 m3 hql hq95
                obtain ⟨nl, hnl⟩ : ∃ nl, nl = al.length := ⟨_, rfl⟩
                cases hfe : feq g f with
                | true =>
                  obtain rfl := (feq_iff g f).1 hfe
                  rw [hfe, if_pos rfl] at hins
                  have HI : Hid (insF al g = some al) := hins
                  clear hq hins hfe hg hnm hlg hcg hcgm hnl
                  go_wp2_with (go_at_call 69; refine cs.mono ?_; rintro e W1 ⟨rfl, hB1⟩; refine Hid.out ?_)
                  refine Lib.hid ?_
                  have g0 := hB1.cell (p := ⟨wr.heap.size, 0, none⟩) (by simp)
                  have g1 := hB1.cell (p := ⟨wr.heap.size, 1, none⟩) (by simp)
                  have g2 := hB1.cell (p := ⟨wr.heap.size, 2, none⟩) (by simp)
                  have g3 := hB1.cell (p := ⟨wr.heap.size, 3, none⟩) (by simp)
                  simp at g0 g1 g2 g3
                  have n0 := (hB1.cell (p := ⟨bg, og + q * 4, none⟩) hbg).trans m0
                  have n1 := (hB1.cell (p := ⟨bg, og + q * 4 + 1, none⟩) hbg).trans m1
                  have n2 := (hB1.cell (p := ⟨bg, og + q * 4 + 2, none⟩) hbg).trans m2
                  have n3 := (hB1.cell (p := ⟨bg, og + q * 4 + 3, none⟩) hbg).trans m3
                  have hBw : Below w.heap.size w W1 := on1KC HO.out.2.1 hB1 (Nat.le_refl _)
                  have hqi : (q : Int) < (al.length : Int) := by omega
                  have R : ∀ m, FI w K k p (.slice (some ⟨bg, og, none⟩) al.length cg) (.int .i64 ((j + 1 : Nat) : Int)) (W1.drewN m) := fun m => by
                    obtain ⟨h1, h2, h3, h4, h5⟩ := HQ.out
                    have ho : (W1.drewN m).ownsRow w.heap.size 56 4 (.slice (some ⟨bg, og, none⟩) al.length cg) al.length (cellsF al) := own_below HO.out.1 (b_drewKC hB1 m)
                    refine ⟨j + 1, al, by omega, rfl, ?_, h2, by omega, ho, b_drewKC hBw m⟩
                    rw [h1, HD.out, List.cons_append]
                    conv => lhs; unfold fOf
                    rw [HI.out]
                  have HRR : Hid (∀ m, FI w K k p (.slice (some ⟨bg, og, none⟩) al.length cg) (.int .i64 ((j + 1 : Nat) : Int)) (W1.drewN m)) := R
                  clear R cs d0 d1 d2 d3 m0 m1 m2 m3 hBw
                  go_wp2_with fail
                  go_quiet (fail)
                  go_wp2
                  refine ⟨?_, ?_⟩
                  · first | exact HRR.out _ | ((repeat apply Exists.intro); refine ⟨?_, rfl⟩; exact HRR.out _)
                  · simp [intOf]
                    try omega
                | false =>
                  rw [hfe, if_neg (by decide)] at hins
                  have HN : Hid (fieldsOf K = none) := by
                    show _ = _
                    rw [HQ.out.1, HD.out, List.cons_append]
                    conv => lhs; unfold fOf
                    rw [hins]
                  have hcmp : (g.t == f.t && g.must == f.must && g.key == f.key) = false := by
                    unfold feq at hfe
                    rw [hnm] at hfe
                    simpa using hfe
                  rw [hnm] at m0
                  clear hq hins hfe hg hnm hlg hcg hcgm hnl
                  go_wp2_with (go_at_call 69; refine cs.mono ?_; rintro e W1 ⟨rfl, hB1⟩; refine Hid.out ?_)
                  refine Lib.hid ?_
                  have g0 := hB1.cell (p := ⟨wr.heap.size, 0, none⟩) (by simp)
                  have g1 := hB1.cell (p := ⟨wr.heap.size, 1, none⟩) (by simp)
                  have g2 := hB1.cell (p := ⟨wr.heap.size, 2, none⟩) (by simp)
                  have g3 := hB1.cell (p := ⟨wr.heap.size, 3, none⟩) (by simp)
                  simp at g0 g1 g2 g3
                  have n0 := (hB1.cell (p := ⟨bg, og + q * 4, none⟩) hbg).trans m0
                  have n1 := (hB1.cell (p := ⟨bg, og + q * 4 + 1, none⟩) hbg).trans m1
                  have n2 := (hB1.cell (p := ⟨bg, og + q * 4 + 2, none⟩) hbg).trans m2
                  have n3 := (hB1.cell (p := ⟨bg, og + q * 4 + 3, none⟩) hbg).trans m3
                  have hBw : Below w.heap.size w W1 := on1KC HO.out.2.1 hB1 (Nat.le_refl _)
                  have hqi : (q : Int) < (al.length : Int) := by omega
                  have hsp : (g.t == f.t) = false ∨ (g.t = f.t ∧ ((g.must = true ∧ f.must = false) ∨ (g.must = false ∧ f.must = true) ∨ (g.must = f.must ∧ ((g.key = true ∧ f.key = false) ∨ (g.key = false ∧ f.key = true))))) := by
                    by_cases ht : g.t = f.t
                    · right
                      refine ⟨ht, ?_⟩
                      revert hcmp
                      rw [ht]
                      cases g.must <;> cases f.must <;> cases g.key <;> cases f.key <;> simp
                    · left; simpa using ht
                  clear cs d0 d1 d2 d3 m0 m1 m2 m3 hcmp
                  rcases hsp with ht | ⟨ht, ⟨hm1, hm2⟩ | ⟨hm1, hm2⟩ | ⟨hm, ⟨hm1, hm2⟩ | ⟨hm1, hm2⟩⟩⟩
                  all_goals
                    go_wp2_with fail
                    go_quiet (fail)
                    go_wp2
                    go_ret2
                    exact ⟨.slice none 0 0, ret_v (by rw [HN.out]; rfl), fun l hl => (by rw [HN.out] at hl; cases hl), fun _ => rfl, b_drewKC hBw _⟩
          · have hd : p.fs.drop j = [] := List.drop_eq_nil_of_le (by omega)
            have R : FR w K u5 (.int .i64 ((k + 1 : Nat) : Int)) wr := by
              refine ⟨k + 1, al, by omega, rfl, ?_, h2, by omega, h4, hB⟩
              rw [h1, hd]; rfl
            have HRR : Hid (FR w K u5 (.int .i64 ((k + 1 : Nat) : Int)) wr) := R
            clear R h1 h2 h3 h4 hB hd HQ
            go_wp2
            refine ⟨?_, ?_⟩
            · first | exact HRR.out | ((repeat apply Exists.intro); refine ⟨?_, rfl⟩; exact HRR.out)
            · simp [intOf]
              try omega
    · have hd : K.drop k = [] := List.drop_eq_nil_of_le (by omega)
      have hF : fieldsOf K = some all := by rw [h1, hd]; rfl
      have HF : Hid (fieldsOf K = some all) := hF
      clear h1 h2 h3 h4 hd hF
      go_wp2
      go_ret2
      refine ⟨_, ret_v (by rw [HF.out]; rfl), fun l hl => ?_, fun h => (by rw [HF.out] at h; cases h), HR.out.2.2.2.2⟩
      rw [HF.out] at hl
      obtain rfl := Option.some.inj hl
      exact HR.out.2.2.2.1
set_option maxHeartbeats 1000000 in
theorem fieldsOf_nil (w : World) : Calls Tryz.prog 42 #[.slice none 0 0] w (FPost w (fieldsOf [])) := by
  go_enter Tryz.func42, Tryz.ntmps42
  go_wp2
  go_loopw [5, 14] (fun v i wr => v = .slice none 0 0 ∧ i = .int .i64 0 ∧ wr = w) (fun _ i _ => 0)
  case atStart => exact ⟨rfl, rfl, rfl⟩
  case round =>
    obtain ⟨rfl, rfl, rfl⟩ := hrel
    go_wp2
    go_ret2
    refine ⟨_, rfl, fun l hl => ?_, fun h => (by cases h), Below.refl _ _⟩
    obtain rfl := Option.some.inj hl
    exact World.ownsRow_nil _ _ _ _
theorem fieldsOf_any {v : Value} {K : List Kd} {w : World} (h : IsK w v K) (hP : Parts w K) (hS : Small K) (hn : K.length ≤ 12) : Calls Tryz.prog 42 #[v] w (FPost w (fieldsOf K)) := by
  rcases h with ⟨rfl, rfl⟩ | ⟨b, off, cap, rfl, hcap, hm, hb, hl⟩
  · exact fieldsOf_nil w
  · exact fieldsOf_some b off cap K w hb hl hP hS hn
theorem IsS.sln {w : World} {v : Value} {l : List Nm} (h : IsS w v l) : ∃ ao c, v = .slice ao l.length c ∧ l.length ≤ maxLen := by
  rcases h with ⟨ao, c, rfl, rfl, _⟩ | ⟨b, off, cap, rfl, h1, h2, _⟩
  · exact ⟨_, _, rfl, by unfold maxLen; simp⟩
  · exact ⟨_, _, rfl, by omega⟩
theorem IsF.sln {w : World} {v : Value} {l : List Fd} (h : IsF w v l) : ∃ ao c, v = .slice ao l.length c ∧ l.length ≤ maxLen := by
  rcases h with ⟨ao, c, rfl, rfl, _⟩ | ⟨b, off, cap, rfl, h1, h2, _⟩
  · exact ⟨_, _, rfl, by unfold maxLen; simp⟩
  · exact ⟨_, _, rfl, by omega⟩
set_option maxHeartbeats 8000000 in
set_option maxRecDepth 100000 in
theorem checkKind_some (b off cap : Nat) (A : List Kd) (k : Kd) (w : World) (hb : b < w.heap.size) (hL : LiesK w b off (A ++ [k])) (hP : Parts w (A ++ [k])) (hS : Small A) (hz : SzK (A ++ [k])) (hn : A.length < 12) (hc : A.length + 1 ≤ cap) (hcm : cap ≤ maxLen) :
    Calls Tryz.prog 24 #[.slice (some ⟨b, off, none⟩) (A.length + 1) cap] w fun e w' => e = .returned (errV (kErr A k)) ∧ Below w.heap.size w w' := by
  obtain ⟨c0, c1, c2⟩ := hL A.length k (by simp)
  have hkP := hP k (by simp)
  obtain ⟨ao, co, evo, hvl⟩ := hkP.1.sln
  obtain ⟨af, cf, evf, hfl⟩ := hkP.2.sln
  rw [evo] at c1
  rw [evf] at c2
  unfold maxLen at hcm hvl hfl
  have hA : IsK w (.slice (some ⟨b, off, none⟩) A.length cap) A := .inr ⟨b, off, cap, rfl, by omega, by unfold maxLen; omega, hb, by have := hL.take A.length; simpa using this⟩
  have ck := fun (W : World) (hB : Below w.heap.size w W) (hSk : Small (A ++ [k])) => kinOf_some b off cap (A ++ [k]) k W (by simp) (Nat.lt_of_lt_of_le hb hB.size) (hL.on hb hB) (hP.on hB) hSk (by simp; omega)
  simp only [List.length_append, List.length_cons, List.length_nil, Nat.zero_add] at ck
  have HH : Hid (IsK w (.slice (some ⟨b, off, none⟩) A.length cap) A ∧ Parts w (A ++ [k]) ∧ Small A ∧ SzK (A ++ [k]) ∧ A.length ≤ 12 ∧ IsS w (.slice ao k.of.length co) k.of ∧ IsF w (.slice af k.fs.length cf) k.fs) := ⟨hA, hP, hS, hz, by omega, by rw [← evo]; exact hkP.1, by rw [← evf]; exact hkP.2⟩
  have HCK : Hid (∀ (W : World) (hB : Below w.heap.size w W) (hSk : Small (A ++ [k])), Calls Tryz.prog 43 #[.slice (some ⟨b, off, none⟩) (A.length + 1) cap] W fun e w' => ∃ v, e = .returned v ∧ w'.ownsRow W.heap.size 30 3 v (kinOf (A ++ [k])).length (cellsK (kinOf (A ++ [k]))) ∧ Below W.heap.size W w') := ck
  have nm := fun w => name_any (bs k.nm) w (by rw [bs_size]; exact (hz k (by simp)).1)
  simp only [bs_data] at nm
  have hw1 : IntKind.i64.wrap ((A.length : Int)) = (A.length : Int) := by rw [IntKind.wrap_i64]; omega
  have hsub : ((A.length : Int) + 1) - 1 = (A.length : Int) := by omega
  have hc1 : (A.length : Int) ≤ (cap : Int) := by omega
  have hbn : ¬ b = w.heap.size := by omega
  have hB0 : Below w.heap.size w (w.alloc (.cells #[.string (bs k.nm), .slice ao k.of.length co, .slice af k.fs.length cf] 30)).drew := (b_allocKC (Below.refl _ _) (Nat.le_refl _) _).drew
  have HB0 : Hid (Below w.heap.size w (w.alloc (.cells #[.string (bs k.nm), .slice ao k.of.length co, .slice af k.fs.length cf] 30)).drew) := hB0
  clear hA hP hS hz hL hkP ck hB0 evo evf
  by_cases h1 : nErr k.nm = 0
  · have nm' : ∀ w, Calls Tryz.prog 25 #[.string (bs k.nm)] w fun e w' => e = .returned .nilIface ∧ w' = w := fun w => by
      have := nm w; rw [h1] at this; exact this
    clear nm
    have c1 := index_anyC (HH.out.1.on HB0.out) HH.out.2.2.2.2.1 k.nm
    rcases idxK_spec k.nm A 0 with hx | ⟨j, q, hx, _, _⟩
    · rw [hx] at c1
      have HX : Hid (nErr k.nm = 0 ∧ idxK k.nm A 0 = -1) := ⟨h1, hx⟩
      clear h1 hx
      by_cases h4 : 4 < k.of.length ∨ 8 < k.fs.length
      · have H : Hid (kErr A k = 4) := by
          show _ = _
          unfold kErr; rw [if_pos HX.out.1, if_pos HX.out.2, if_pos h4]
        have h4' : 4 < k.of.length ∨ (¬ 4 < k.of.length ∧ 8 < k.fs.length) := by omega
        clear h4
        rcases h4' with h4 | ⟨h4, h8⟩
        all_goals
          go_enter Tryz.func24, Tryz.ntmps24
          go_wp2_with fail
          go_region
          go_wp2_with (first | (go_at_call 25; refine (nm' _).mono ?_; rintro e w' ⟨rfl, rfl⟩) | (go_at_call 39; refine c1.mono ?_; rintro e W1 ⟨rfl, hB1⟩; refine Hid.out ?_))
          refine Lib.hid ?_
          have g1 := hB1.cell (p := ⟨w.heap.size, 1, none⟩) (by simp)
          have g2 := hB1.cell (p := ⟨w.heap.size, 2, none⟩) (by simp)
          simp at g1 g2
          go_wp2
          go_ret
          exact ⟨ret_v (by rw [H.out]; rfl), on1KC HB0.out hB1 (Nat.le_refl _)⟩
      · have h4a : k.of.length ≤ 4 := by omega
        have h4b : k.fs.length ≤ 8 := by omega
        have h4c : ¬ 4 < k.of.length := by omega
        have h4d : ¬ 8 < k.fs.length := by omega
        have hSk : Small (A ++ [k]) := fun x hx => by
          rcases List.mem_append.1 hx with hx | hx
          · exact HH.out.2.2.1 x hx
          · have : x = k := by simpa using hx
            subst this; exact ⟨h4a, h4b⟩
        have HSk : Hid (Small (A ++ [k]) ∧ ¬ (4 < k.of.length ∨ 8 < k.fs.length)) := ⟨hSk, h4⟩
        clear hSk h4
        go_enter Tryz.func24, Tryz.ntmps24
        go_wp2_with fail
        go_region
        go_wp2_with (first | (go_at_call 25; refine (nm' _).mono ?_; rintro e w' ⟨rfl, rfl⟩) | (go_at_call 39; refine c1.mono ?_; rintro e W1 ⟨rfl, hB1⟩; refine Hid.out ?_))
        refine Lib.hid ?_
        have g1 := hB1.cell (p := ⟨w.heap.size, 1, none⟩) (by simp)
        have g2 := hB1.cell (p := ⟨w.heap.size, 2, none⟩) (by simp)
        simp at g1 g2
        have hBw1 := on1KC HB0.out hB1 (Nat.le_refl _)
        have hsz1 : w.heap.size < W1.heap.size := Nat.lt_of_lt_of_le (by simp) hB1.size
        have c2 := checkOf_any (HH.out.1.on hBw1) HH.out.2.2.2.2.1 (HH.out.2.2.2.2.2.1.on hBw1) h4a
        clear c1 nm'
        by_cases h5 : oChk A [] k.of = 0
        · rw [h5, errV_0] at c2
          go_wp2_with (go_at_call 40; refine c2.mono ?_; rintro e W2 ⟨rfl, hB2⟩; refine Hid.out ?_)
          refine Lib.hid ?_
          have hBw2 := on1KC hBw1 hB2 (Nat.le_refl _)
          have f2 := (hB2.cell (p := ⟨w.heap.size, 2, none⟩) hsz1).trans g2
          have c3 := checkFields_any (HH.out.2.2.2.2.2.2.on hBw2) (HH.out.2.2.2.1 k (by simp)).2 h4b
          clear c2 g1 g2
          by_cases h6 : fChk none k.fs = 0
          · rw [h6, errV_0] at c3
            go_wp2_with (go_at_call 41; refine c3.mono ?_; rintro e W3 ⟨rfl, hB3⟩; refine Hid.out ?_)
            refine Lib.hid ?_
            have hBw3 := on1KC hBw2 hB3 (Nat.le_refl _)
            have c4 := HCK.out W3 hBw3 HSk.out.1
            clear c3 f2
            go_wp2_with (go_at_call 43; refine c4.mono ?_; rintro e W4 ⟨v4, rfl, hown4, hB4⟩; refine Hid.out ?_)
            refine Lib.hid ?_
            have hBw4 := on1KC hBw3 hB4 (Nat.le_refl _)
            have hsub4 := kinOf_sub (A ++ [k])
            have c5 := fieldsOf_any (own_isK hown4) ((HH.out.2.1.on hBw4).sub hsub4.1) (fun x hx => HSk.out.1 x (hsub4.1 x hx)) (by have := hsub4.2; simp at this; omega)
            have HE : Hid (kErr A k = aErr (fieldsOf (kinOf (A ++ [k])))) := by
              show _ = _
              unfold kErr; rw [if_pos HX.out.1, if_pos HX.out.2, if_neg HSk.out.2, if_pos h5, if_pos h6]
            clear c4 hown4 hsub4
            cases hF : fieldsOf (kinOf (A ++ [k])) with
            | none =>
              rw [hF] at c5 HE
              clear hF
              go_wp2_with (go_at_call 42; refine c5.mono ?_; rintro e W5 ⟨v5, rfl, hown5, hno5, hB5⟩; obtain rfl := hno5 rfl; refine Hid.out ?_)
              refine Lib.hid ?_
              have hBw5 := on1KC hBw4 hB5 (Nat.le_refl _)
              rw [show errV (fErr none) = .iface 76 (.int .i64 7) from rfl]
              go_wp2
              go_ret
              exact ⟨ret_v (by rw [HE.out]; rfl), hBw5⟩
            | some l =>
              rw [hF] at c5 HE
              clear hF
              by_cases h8 : 8 < l.length
              · have HE2 : Hid (kErr A k = 4) := by
                  show _ = _
                  rw [HE.out]; unfold aErr; simp only; rw [if_pos h8]
                go_wp2_with (go_at_call 42; refine c5.mono ?_; rintro e W5 ⟨v5, rfl, hown5, hno5, hB5⟩; obtain ⟨a5, cp5, rfl⟩ := own_sliceC (hown5 l rfl); refine Hid.out ?_)
                refine Lib.hid ?_
                have hBw5 := on1KC hBw4 hB5 (Nat.le_refl _)
                rw [show errV (fErr (some l)) = .nilIface from rfl]
                clear hown5 hno5 c5
                go_wp2
                go_ret
                exact ⟨ret_v (by rw [HE2.out]; rfl), hBw5⟩
              · have HE2 : Hid (kErr A k = 0) := by
                  show _ = _
                  rw [HE.out]; unfold aErr; simp only; rw [if_neg h8]
                go_wp2_with (go_at_call 42; refine c5.mono ?_; rintro e W5 ⟨v5, rfl, hown5, hno5, hB5⟩; obtain ⟨a5, cp5, rfl⟩ := own_sliceC (hown5 l rfl); refine Hid.out ?_)
                refine Lib.hid ?_
                have hBw5 := on1KC hBw4 hB5 (Nat.le_refl _)
                rw [show errV (fErr (some l)) = .nilIface from rfl]
                clear hown5 hno5 c5
                go_wp2
                go_ret
                exact ⟨ret_v (by rw [HE2.out]; rfl), hBw5⟩
          · have H : Hid (kErr A k = fChk none k.fs ∧ ¬ fChk none k.fs = 0) := by
              refine ⟨?_, h6⟩
              unfold kErr; rw [if_pos HX.out.1, if_pos HX.out.2, if_neg HSk.out.2, if_pos h5, if_neg h6]
            rw [errV_ne h6] at c3
            clear h6
            go_wp2_with (go_at_call 41; refine c3.mono ?_; rintro e W3 ⟨rfl, hB3⟩)
            go_ret
            exact ⟨ret_v (by rw [H.out.1, errV_ne H.out.2]; rfl), on1KC hBw2 hB3 (Nat.le_refl _)⟩
        · have H : Hid (kErr A k = oChk A [] k.of ∧ ¬ oChk A [] k.of = 0) := by
            refine ⟨?_, h5⟩
            unfold kErr; rw [if_pos HX.out.1, if_pos HX.out.2, if_neg HSk.out.2, if_neg h5]
          rw [errV_ne h5] at c2
          clear h5
          go_wp2_with (go_at_call 40; refine c2.mono ?_; rintro e W2 ⟨rfl, hB2⟩)
          go_ret
          exact ⟨ret_v (by rw [H.out.1, errV_ne H.out.2]; rfl), on1KC hBw1 hB2 (Nat.le_refl _)⟩
    · have H : Hid (kErr A k = 7) := by
        show _ = _
        unfold kErr; rw [if_pos h1, if_neg (by omega)]
      rw [hx] at c1
      simp only [Nat.zero_add] at c1
      clear h1 hx
      go_enter Tryz.func24, Tryz.ntmps24
      go_wp2_with fail
      go_region
      go_wp2_with (first | (go_at_call 25; refine (nm' _).mono ?_; rintro e w' ⟨rfl, rfl⟩) | (go_at_call 39; refine c1.mono ?_; rintro e W1 ⟨rfl, hB1⟩))
      go_ret
      exact ⟨ret_v (by rw [H.out]; rfl), on1KC HB0.out hB1 (Nat.le_refl _)⟩
  · have nm' : ∀ w, Calls Tryz.prog 25 #[.string (bs k.nm)] w fun e w' => e = .returned (.iface 76 (.int .i64 (nErr k.nm))) ∧ w' = w := fun w => by
      have := nm w; rw [errV_ne h1] at this; exact this
    have H : Hid (kErr A k = nErr k.nm ∧ ¬ nErr k.nm = 0) := by
      refine ⟨?_, h1⟩
      unfold kErr; rw [if_neg h1]
    clear nm h1
    go_enter Tryz.func24, Tryz.ntmps24
    go_wp2_with fail
    go_region
    go_wp2_with (go_at_call 25; refine (nm' _).mono ?_; rintro e w' ⟨rfl, rfl⟩)
    go_ret
    exact ⟨ret_v (by rw [H.out.1, errV_ne H.out.2]; rfl), HB0.out⟩
end Go.Proofs.YtahamkajkkkjdaaGreatDoor
