/-
  What is right may be asked: shapes, nodes and ties of what passed its check.
-/
import Derived.Test.YtjjnfnlkfojehaaChkI
namespace Go.Proofs.Ytjjnfnlkfojehaa
open Go.RowKit
set_option linter.unusedVariables false
set_option linter.unusedSimpArgs false

theorem insF_mem {all l : List Fd} {f : Fd} (h : insF all f = some l) : ∀ g ∈ l, g ∈ all ∨ g = f := by
  intro g hg
  unfold insF at h
  have two : ∀ {i : Nat}, g ∈ all.take i ++ f :: all.drop i → g ∈ all ∨ g = f := fun hm => by
    rcases List.mem_append.1 hm with h1 | h1
    · exact .inl (List.mem_of_mem_take h1)
    · rcases List.mem_cons.1 h1 with h2 | h2
      · exact .inr h2
      · exact .inl (List.mem_of_mem_drop h2)
  split at h
  · split at h
    · split at h
      · cases h; exact .inl hg
      · cases h
    · cases h; exact two hg
  · cases h; exact two hg
theorem fOf_mem : ∀ (fs all l : List Fd), fOf all fs = some l → ∀ g ∈ l, g ∈ all ∨ g ∈ fs
  | [], all, l, h, g, hg => by cases h; exact .inl hg
  | f :: r, all, l, h, g, hg => by
    unfold fOf at h
    cases hi : insF all f with
    | none => rw [hi] at h; cases h
    | some a =>
      rw [hi] at h
      rcases fOf_mem r a l h g hg with h1 | h1
      · rcases insF_mem hi g h1 with h2 | h2
        · exact .inl h2
        · exact .inr (by simp [h2])
      · exact .inr (by simp [h1])
theorem fields_mem {L : List Kd} {a : Nm} {f : Fd} (h : f ∈ fields L a) : ∃ k ∈ L, f ∈ k.fs := by
  unfold fields at h
  cases hf : fieldsOf (kin L a) with
  | none => rw [hf] at h; simp at h
  | some l =>
    rw [hf] at h
    simp only [Option.getD_some] at h
    rcases fOf_mem _ _ _ hf f h with h1 | h1
    · simp at h1
    · obtain ⟨k, hk, hfk⟩ := List.mem_flatMap.1 h1
      exact ⟨k, List.mem_of_mem_take ((kinOf_sub _).1 k hk), hfk⟩
theorem fold_some (L : List Kd) (B : List Bd) : ∀ (M : List Kd) (F : ByteArray → Option Sh) (s : ByteArray) (h : Sh), (M.foldl (fun F k => upd F (bs k.nm) (shp L B k.nm)) F) s = some h → F s = some h ∨ ∃ k ∈ M, h = shp L B k.nm
  | [], F, s, h, e => .inl e
  | k :: r, F, s, h, e => by
    simp only [List.foldl_cons] at e
    rcases fold_some L B r _ s h e with h1 | ⟨k', hk', h2⟩
    · unfold upd at h1
      split at h1
      · exact .inr ⟨k, by simp, (Option.some.inj h1).symm⟩
      · exact .inl h1
    · exact .inr ⟨k', by simp [hk'], h2⟩
theorem shO_ok {L : List Kd} {B : List Bd} (he : (sErr L B).2 = 0) (hz : SzK L) (hzb : SzB B) : ∀ s h, shO L B L s = some h → ShOk h := by
  intro s h hs
  obtain ⟨hk0, _, hb12⟩ := sErr_good.1 he
  rcases fold_some L B L _ s h hs with h1 | ⟨k, hk, rfl⟩
  · cases h1
  · have hl12 := ksErr_len hk0
    refine ⟨?_, ?_, fun f hf => ?_, ?_, fun x hx => hzb x (List.mem_filter.1 hx).1⟩
    · have h1 := (kinOf_sub (L.take (nmAt L k.nm + 1))).2
      have : (nms (kin L k.nm)).length = (kinOf (L.take (nmAt L k.nm + 1))).length := by simp [nms, kin]
      show (nms (kin L k.nm)).length ≤ 1000
      rw [this]
      simp at h1
      omega
    · show (fields L k.nm).length ≤ 8
      obtain ⟨hG, hn, j, q, hx, hat, hq, hqa⟩ := nmErr_zero (in_nmErr hk0 hk)
      obtain ⟨l, hl1, hl2⟩ := hG.fields hq
      have hkin : kin L k.nm = kinOf (L.take (j + 1)) := by unfold kin; rw [hat]
      have hfl : fields L k.nm = l := by unfold fields; rw [hkin, hl1]; rfl
      rw [hfl]; exact hl2
    · obtain ⟨k', hk', hf'⟩ := fields_mem hf
      exact (hz k' hk').2 f hf'
    · have := List.length_filter_le (fun x : Bd => hasN (nms (kin L k.nm)) x.fr) B
      show (B.filter _).length ≤ 12
      omega
theorem chk_all : ∀ (L : List Pr) (o : Option Pr), chk o L = 0 → ∀ p ∈ L, p.bad = 0
  | [], _, _, p, hp => by simp at hp
  | q :: r, o, h, p, hp => by
    have key : q.bad = 0 ∧ chk (some q) r = 0 := by
      cases o with
      | none =>
        unfold chk at h
        split at h
        · split at h
          · rename_i h1; exact ⟨h1, h⟩
          · rename_i h1; exact absurd h h1
        · rename_i h1; exact absurd h h1
      | some o =>
        unfold chk at h
        split at h
        · split at h
          · rename_i h1
            split at h
            · exact absurd h (by decide)
            · exact ⟨h1, h⟩
          · rename_i h1; exact absurd h h1
        · rename_i h1; exact absurd h h1
    rcases List.mem_cons.1 hp with rfl | hp
    · exact key.1
    · exact chk_all r (some q) key.2 p hp
theorem vErr_in {t n : Int} {l : List UInt8} (h : vErr t n l = 0) : in64 t ∧ in64 n := by
  unfold vErr at h
  split at h
  · rename_i ht
    split at h
    · rename_i hn
      refine ⟨in64_of (by omega) (by omega), ?_⟩
      unfold inR at hn
      split at hn
      · simp at hn; exact in64_of (by omega) (by omega)
      · split at hn
        · simp at hn; exact in64_of (by omega) (by omega)
        · simp at hn; exact in64_of (by omega) (by omega)
    · exact absurd h (by decide)
  · exact absurd h (by decide)
theorem rErr_ok {L : List Pr} (h : rErr L = 0) (hs : Sz L) : VOk L := by
  intro p hp
  have h2 : chk none L = 0 := by
    unfold rErr at h
    split at h
    · exact absurd h (by decide)
    · exact h
  have hb := chk_all L none h2 p hp
  unfold Pr.bad at hb
  obtain ⟨h3, h4⟩ := vErr_in hb
  exact ⟨h3, h4, (hs p hp).2⟩
theorem chkN_all : ∀ (N : List Nd) (o : Option Nd), chkN o N = 0 → ∀ n ∈ N, ∃ o', ndE o' n = 0
  | [], _, _, n, hn => by simp at hn
  | q :: r, o, h, n, hn => by
    unfold chkN at h
    split at h
    · rename_i h1
      rcases List.mem_cons.1 hn with rfl | hn
      · exact ⟨o, h1⟩
      · exact chkN_all r (some q) h n hn
    · rename_i h1; exact absurd h h1
theorem chkT_all : ∀ (T : List Te) (o : Option Te), chkT o T = 0 → ∀ t ∈ T, ∃ o', teE o' t = 0
  | [], _, _, n, hn => by simp at hn
  | q :: r, o, h, n, hn => by
    unfold chkT at h
    split at h
    · rename_i h1
      rcases List.mem_cons.1 hn with rfl | hn
      · exact ⟨o, h1⟩
      · exact chkT_all r (some q) h n hn
    · rename_i h1; exact absurd h h1
theorem idOk_iff {i : Int} (h : idOk i = true) : 1 ≤ i ∧ i ≤ 1000 := by unfold idOk at h; simpa using h
theorem ndE_zero {o : Option Nd} {n : Nd} (h : ndE o n = 0) : idOk n.id = true ∧ n.low o = false ∧ nErr n.kd.data.toList = 0 ∧ rErr n.rc = 0 := by
  unfold ndE at h
  split at h
  · rename_i h1
    split at h
    · exact absurd h (by decide)
    · rename_i h2
      split at h
      · rename_i h3; exact ⟨h1, by simpa using h2, h3, h⟩
      · rename_i h3; exact absurd h h3
  · exact absurd h (by decide)
theorem gErr_parts {N : List Nd} {T : List Te} (h : gErr N T = 0) : N.length ≤ 60 ∧ T.length ≤ 120 ∧ chkN none N = 0 ∧ chkT none T = 0 := by
  unfold gErr at h
  split at h
  · exact absurd h (by decide)
  · rename_i h1
    split at h
    · rename_i h2; exact ⟨by omega, by omega, h2, h⟩
    · rename_i h2; exact absurd h h2
theorem nd_ok {o : Option Nd} {n : Nd} (h : ndE o n = 0) (hz : n.kd.size ≤ maxLen ∧ Sz n.rc ∧ n.rc.length ≤ maxLen) : NdOk n := by
  obtain ⟨h1, _, _, h4⟩ := ndE_zero h
  exact ⟨hz.2.1, h4, rErr_ok h4 hz.2.1, hz.1, idOk_iff h1⟩
theorem nds_ok {N : List Nd} {T : List Te} (h : gErr N T = 0) (hz : SzN N) : ∀ n ∈ N, NdOk n := fun n hn => by
  obtain ⟨o, ho⟩ := chkN_all N none (gErr_parts h).2.2.1 n hn
  exact nd_ok ho (hz n hn)
theorem tes_ok {N : List Nd} {T : List Te} (h : gErr N T = 0) (hz : SzT T) : ∀ t ∈ T, TeOk t := fun t ht => by
  obtain ⟨o, ho⟩ := chkT_all T none (gErr_parts h).2.2.2 t ht
  unfold teE at ho
  split at ho
  · split at ho
    · rename_i h2
      rw [Bool.and_eq_true] at h2
      have h3 := idOk_iff h2.1
      have h4 := idOk_iff h2.2
      exact ⟨hz t ht, in64_of (by omega) (by omega), in64_of (by omega) (by omega)⟩
    · exact absurd ho (by decide)
  · rename_i h2; exact absurd ho h2
end Go.Proofs.Ytjjnfnlkfojehaa
