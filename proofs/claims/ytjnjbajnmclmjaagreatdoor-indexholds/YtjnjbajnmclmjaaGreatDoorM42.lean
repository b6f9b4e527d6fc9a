/-
  Who is of a kind, who has a key: mathematics.
-/
import Derived.Test.YtjnjbajnmclmjaaGreatDoorM41
import Derived.Test.YtjnjbajnmclmjaaGreatDoorM09
namespace Go.Proofs.YtjnjbajnmclmjaaGreatDoor
open Go.RowKit
set_option linter.unusedVariables false
set_option linter.unusedSimpArgs false

theorem kin_filter {L : List Kd} {a : Nm} (h : nmErr L a = 0) : kin L a = L.filter fun x => hasN (names L a) x.nm := by
  obtain ⟨hG, hn, j, q, hx, hat, hq, hqa⟩ := nmErr_zero h
  unfold kin
  rw [hat, kinOf_at hG.right hq, hqa]
theorem kin_mem {L : List Kd} {a : Nm} (h : nmErr L a = 0) (x : Kd) : x ∈ kin L a ↔ x ∈ L ∧ x.nm ∈ names L a := by
  rw [kin_filter h, List.mem_filter, hasN_iff]
theorem nms_mem {L : List Kd} {a : Nm} (h : nmErr L a = 0) (n : Nm) : n ∈ nms (kin L a) ↔ n ∈ names L a ∧ ∃ x ∈ L, x.nm = n := by
  unfold nms
  rw [List.mem_map]
  constructor
  · rintro ⟨x, hx, rfl⟩
    obtain ⟨h1, h2⟩ := (kin_mem h x).1 hx
    exact ⟨h2, x, h1, rfl⟩
  · rintro ⟨h1, x, h2, rfl⟩
    exact ⟨x, (kin_mem h x).2 ⟨h2, h1⟩, rfl⟩
theorem kin_err {L : List Kd} {a n : Nm} (h : nmErr L a = 0) (hn : n ∈ nms (kin L a)) : nmErr L n = 0 := by
  obtain ⟨h1, x, h2, rfl⟩ := (nms_mem h n).1 hn
  unfold nmErr
  have hk : (ksErr L).2 = 0 := ksErr_good.2 ⟨(nmErr_zero h).1, (nmErr_zero h).2.1⟩
  rw [if_pos hk, if_neg (fun e => idxK_none e x h2 rfl)]
theorem fields_memH {L : List Kd} {a : Nm} (h : nmErr L a = 0) (f : Fd) : f ∈ fields L a ↔ ∃ x ∈ kin L a, f ∈ x.fs := by
  obtain ⟨hG, hl, j, q, hx, hat, hq, hqa⟩ := nmErr_zero h
  obtain ⟨l, hl1, hl2⟩ := hG.fields hq
  have hk : kin L a = kinOf (L.take (j + 1)) := by unfold kin; rw [hat]
  have hf : fields L a = l := by unfold fields; rw [hk, hl1]; rfl
  have hl3 : fOf [] ((kin L a).flatMap Kd.fs) = some l := by rw [hk]; exact hl1
  obtain ⟨_, hm, _⟩ := fOf_spec _ srt_nil hl3
  rw [hf, hm]
  simp [List.mem_flatMap]
theorem fields_sub {L : List Kd} {a n : Nm} (h : nmErr L a = 0) (hn : n ∈ nms (kin L a)) (f : Fd) (hf : f ∈ fields L n) : f ∈ fields L a := by
  have e := kin_err h hn
  obtain ⟨x, hx, hfx⟩ := (fields_memH e f).1 hf
  refine (fields_memH h f).2 ⟨x, ?_, hfx⟩
  obtain ⟨h1, h2⟩ := (kin_mem e x).1 hx
  exact (kin_mem h x).2 ⟨h1, names_trans (nmErr_zero h).1.right ((nms_mem h n).1 hn).1 h2⟩
theorem nms_nodup {L : List Kd} (h : Right L) : (nms L).Nodup := by
  unfold nms List.Nodup
  rw [List.pairwise_map, List.pairwise_iff_getElem]
  intro i j hi hj hij e
  have := right_names h i j L[i] L[j] (List.getElem?_eq_getElem hi) (List.getElem?_eq_getElem hj) e
  omega
theorem kin_nodup {L : List Kd} {a : Nm} (h : nmErr L a = 0) : (nms (kin L a)).Nodup := by
  rw [kin_filter h]
  exact List.Sublist.nodup (List.Sublist.map Kd.nm List.filter_sublist) (nms_nodup (nmErr_zero h).1.right)
theorem bLess_irr (a : List UInt8) : Op.bytesLess a a = false := by
  induction a with
  | nil => rfl
  | cons x r ih => simp [Op.bytesLess, ih]
theorem fields_uniq {L : List Kd} {a : Nm} (h : nmErr L a = 0) {f g : Fd} (hf : f ∈ fields L a) (hg : g ∈ fields L a) (e : f.nm = g.nm) : f = g := by
  obtain ⟨hG, hl, j, q, hx, hat, hq, hqa⟩ := nmErr_zero h
  obtain ⟨l, hl1, hl2⟩ := hG.fields hq
  have hk : kin L a = kinOf (L.take (j + 1)) := by unfold kin; rw [hat]
  have hfl : fields L a = l := by unfold fields; rw [hk, hl1]; rfl
  have hl3 : fOf [] ((kin L a).flatMap Kd.fs) = some l := by rw [hk]; exact hl1
  obtain ⟨hS, _, _⟩ := fOf_spec _ srt_nil hl3
  rw [hfl] at hf hg
  obtain ⟨i, hi, rfl⟩ := List.getElem_of_mem hf
  obtain ⟨k, hk', rfl⟩ := List.getElem_of_mem hg
  unfold Srt at hS
  rw [List.pairwise_iff_getElem] at hS
  rcases Nat.lt_trichotomy i k with h1 | h1 | h1
  · have := hS i k hi hk' h1
    rw [e, bLess_irr] at this
    cases this
  · subst h1; rfl
  · have := hS k i hk' hi h1
    rw [e, bLess_irr] at this
    cases this
theorem bs_inj {a b : Nm} (h : bs a = bs b) : a = b := by rw [← bs_toList a, ← bs_toList b, h]
/-- The two tables of shapes have the same kin. -/
theorem kn_fold (L : List Kd) (B : List Bd) : ∀ (M : List Kd) (F : ByteArray → Option Sh) (G : ByteArray → Option Hp), (∀ x, (F x).map Sh.kn = (G x).map Hp.kn) → ∀ x, ((M.foldl (fun F k => upd F (bs k.nm) (shp L B k.nm)) F) x).map Sh.kn = ((M.foldl (fun G k => upd G (bs k.nm) (hpP L k.nm)) G) x).map Hp.kn
  | [], F, G, h, x => h x
  | k :: r, F, G, h, x => by
    simp only [List.foldl_cons]
    refine kn_fold L B r _ _ (fun y => ?_) x
    unfold upd
    split
    · rfl
    · exact h y
theorem kn_map (L : List Kd) (B : List Bd) (x : ByteArray) : (shO L B L x).map Sh.kn = (hpO L L x).map Hp.kn := kn_fold L B L _ _ (fun _ => rfl) x
theorem kn_eq (L : List Kd) (B : List Bd) (x : ByteArray) : ((shO L B L x).getD sh0).kn = knO (hpO L L) x := by
  have := kn_map L B x
  unfold knO
  rw [← this]
  cases shO L B L x <;> rfl
theorem sh_some (L : List Kd) (B : List Bd) (x : ByteArray) : (shO L B L x).isSome = (hpO L L x).isSome := by
  have := congrArg Option.isSome (kn_map L B x)
  simpa using this

/-- A row of the table of kinds. -/
def rowK (S : TK) (a : Nm) : List Int := (S.1 (bs a)).getD []
theorem kinS_row (H : ByteArray → Option Hp) (n : Nd) (a : Nm) : ∀ (l : List Nm) (S : TK), l.Nodup → rowK (l.foldl (kinS H n) S) a = rowK S a ++ (if hasN l a = true then [n.id] else [])
  | [], S, _ => by simp [hasN]
  | b :: r, S, hd => by
    obtain ⟨h1, h2⟩ := List.nodup_cons.1 hd
    simp only [List.foldl_cons]
    rw [kinS_row H n a r _ h2]
    have hs : rowK (kinS H n S b) a = if a = b then rowK S a ++ [n.id] else rowK S a := by
      unfold rowK kinS rowA upd
      by_cases e : a = b
      · subst e; simp
      · show ((if bs a = bs b then some ((S.1 (bs b)).getD [] ++ [n.id]) else S.1 (bs a)).getD []) = _
        rw [if_neg (fun h => e (bs_inj h)), if_neg e]
    rw [hs]
    by_cases e : a = b
    · subst e
      have hr : hasN r a = false := by
        cases hq : hasN r a
        · rfl
        · exact absurd ((hasN_iff r a).1 hq) h1
      have hc : hasN (a :: r) a = true := by simp [hasN]
      rw [if_pos rfl, hr, hc]; simp
    · have hc : hasN (b :: r) a = hasN r a := by
        unfold hasN
        rw [List.contains_cons]
        simp [e]
      rw [if_neg e, hc]
theorem tab_kind (H : ByteArray → Option Hp) (a : Nm) : ∀ (N : List Nd) (S : TK), (∀ n ∈ N, (knO H n.kd).Nodup) → rowK (N.foldl (ndS H) S) a = rowK S a ++ (N.filter fun n => hasN (knO H n.kd) a).map (·.id)
  | [], S, _ => by simp
  | n :: r, S, h => by
    simp only [List.foldl_cons]
    rw [tab_kind H a r _ (fun m hm => h m (by simp [hm]))]
    unfold ndS
    rw [kinS_row H n a _ S (h n (by simp)), List.append_assoc]
    congr 1
    cases hq : hasN (knO H n.kd) a <;> simp [List.filter, hq]
/-- Where a key of the table comes from. -/
def KeyOf (H : ByteArray → Option Hp) (N : List Nd) (G : KeyJ → Option Int) : Prop := ∀ k i, G k = some i → ∃ n ∈ N, n.id = i ∧ ∃ a ∈ knO H n.kd, ∃ p ∈ n.rc, k = keyO (bs a) p ∧ hasN (ksO H (bs a)) p.nm.toList = true
theorem noteF_of {H : ByteArray → Option Hp} {N : List Nd} {n : Nd} (hn : n ∈ N) {a : Nm} (ha : a ∈ knO H n.kd) : ∀ (rc : List Pr) (G : KeyJ → Option Int), (∀ p ∈ rc, p ∈ n.rc) → KeyOf H N G → KeyOf H N (rc.foldl (noteS (bs a) (ksO H (bs a)) n.id) G)
  | [], G, _, h => h
  | p :: r, G, hs, h => by
    simp only [List.foldl_cons]
    refine noteF_of hn ha r _ (fun q hq => hs q (by simp [hq])) ?_
    intro k i hk
    unfold noteS at hk
    split at hk
    · rename_i hc
      unfold upd at hk
      split at hk
      · rename_i e
        rw [Bool.and_eq_true] at hc
        exact ⟨n, hn, Option.some.inj hk, a, ha, p, hs p (by simp), e, hc.2⟩
      · exact h k i hk
    · exact h k i hk
theorem kinS_of {H : ByteArray → Option Hp} {N : List Nd} {n : Nd} (hn : n ∈ N) : ∀ (l : List Nm) (S : TK), (∀ a ∈ l, a ∈ knO H n.kd) → KeyOf H N S.2 → KeyOf H N (l.foldl (kinS H n) S).2
  | [], S, _, h => h
  | a :: r, S, hs, h => by
    simp only [List.foldl_cons]
    exact kinS_of hn r _ (fun b hb => hs b (by simp [hb])) (noteF_of hn (hs a (by simp)) n.rc S.2 (fun p hp => hp) h)
theorem tab_key (H : ByteArray → Option Hp) (M : List Nd) : ∀ (N : List Nd) (S : TK), (∀ n ∈ N, n ∈ M) → KeyOf H M S.2 → KeyOf H M (N.foldl (ndS H) S).2
  | [], S, _, h => h
  | n :: r, S, hs, h => by
    simp only [List.foldl_cons]
    exact tab_key H M r _ (fun m hm => hs m (by simp [hm])) (kinS_of (hs n (by simp)) _ S (fun a ha => ha) h)
end Go.Proofs.YtjnjbajnmclmjaaGreatDoor

/-
  In a graph that conforms no two nodes have one key: mathematics.
-/
namespace Go.Proofs.YtjnjbajnmclmjaaGreatDoor
open Go.RowKit
set_option linter.unusedVariables false
set_option linter.unusedSimpArgs false

/-- A key is taken. -/
def NZ (T : Tk) (k : KeyV) : Prop := (T k).getD 0 ≠ 0
theorem fieldS_mono {id : Int} (hid : id ≠ 0) (rc : List Pr) (S : List Ft × Tk) (f : Fd) {k : KeyV} (h : NZ S.2 k) : NZ (fieldS id rc S f).2 k := by
  unfold fieldS
  split
  · exact h
  · split
    · exact h
    · split
      · unfold NZ upd
        simp only
        split
        · exact hid
        · exact h
      · exact h
theorem fields_mono {id : Int} (hid : id ≠ 0) (rc : List Pr) : ∀ (fs : List Fd) (S : List Ft × Tk) {k : KeyV}, NZ S.2 k → NZ (fs.foldl (fieldS id rc) S).2 k
  | [], S, _, h => h
  | f :: r, S, _, h => fields_mono hid rc r _ (fieldS_mono hid rc S f h)
theorem fieldS_nil {id : Int} {rc : List Pr} {S : List Ft × Tk} {f : Fd} (h : (fieldS id rc S f).1 = []) : S.1 = [] ∧ noF rc f = false ∧ sameF rc S.2 f = false := by
  unfold fieldS at h
  split at h
  · simp at h
  · rename_i h1
    split at h
    · simp at h
    · rename_i h2
      have h1' : noF rc f = false := by simpa using h1
      have h2' : sameF rc S.2 f = false := by simpa using h2
      split at h
      · exact ⟨h, h1', h2'⟩
      · exact ⟨h, h1', h2'⟩
theorem fold_nil {id : Int} {rc : List Pr} : ∀ (fs : List Fd) (S : List Ft × Tk), (fs.foldl (fieldS id rc) S).1 = [] → S.1 = []
  | [], S, h => h
  | f :: r, S, h => (fieldS_nil (fold_nil r _ h)).1
/-- What has a key takes it. -/
theorem takes {id : Int} (hid : id ≠ 0) {rc : List Pr} : ∀ (fs : List Fd) (S : List Ft × Tk), (fs.foldl (fieldS id rc) S).1 = [] → ∀ f ∈ fs, f.key = true → NZ (fs.foldl (fieldS id rc) S).2 (keyP rc f)
  | [], _, _, f, hf, _ => by cases hf
  | g :: r, S, h, f, hf, hk => by
    simp only [List.foldl_cons] at h ⊢
    rcases List.mem_cons.1 hf with rfl | hf
    · obtain ⟨_, h1, h2⟩ := fieldS_nil (fold_nil r _ h)
      refine fields_mono hid rc r _ ?_
      unfold fieldS
      rw [if_neg (by rw [h1]; decide), if_neg (by rw [h2]; decide), if_pos hk]
      show (upd S.2 (keyP rc f) id (keyP rc f)).getD 0 ≠ 0
      unfold upd
      rw [if_pos rfl]
      exact hid
    · exact takes hid r _ h f hf hk
/-- What is taken is not had again. -/
theorem not_taken {id : Int} (hid : id ≠ 0) {rc : List Pr} : ∀ (fs : List Fd) (S : List Ft × Tk), (fs.foldl (fieldS id rc) S).1 = [] → ∀ f ∈ fs, f.key = true → (valP (getP f.nm rc)).1 = f.t → ¬ NZ S.2 (keyP rc f)
  | [], _, _, f, hf, _, _ => by cases hf
  | g :: r, S, h, f, hf, hk, ht => by
    simp only [List.foldl_cons] at h
    intro hz
    rcases List.mem_cons.1 hf with rfl | hf
    · obtain ⟨_, _, h2⟩ := fieldS_nil (fold_nil r _ h)
      have : sameF rc S.2 f = true := by
        unfold sameF
        rw [hk, ht]
        have hz' : (S.2 (keyP rc f)).getD 0 ≠ 0 := hz
        simp [hz']
      rw [this] at h2
      cases h2
    · exact not_taken hid r _ h f hf hk ht (fieldS_mono hid rc S g hz)
/-- What is taken behind nodes. -/
def tkN (H : ByteArray → Option Sh) (N : List Nd) (T : Tk) : Tk := N.foldl (fun T n => (ownF (H n.kd) n T).2) T
theorem own_mono2 {H : ByteArray → Option Sh} {n : Nd} (hid : n.id ≠ 0) {T : Tk} {k : KeyV} (h : NZ T k) : NZ (ownF (H n.kd) n T).2 k := by
  unfold ownF
  cases H n.kd with
  | none => exact h
  | some s => exact fields_mono hid n.rc s.fs ([], T) h
theorem tkN_mono {H : ByteArray → Option Sh} : ∀ (N : List Nd) (T : Tk), (∀ n ∈ N, n.id ≠ 0) → ∀ {k : KeyV}, NZ T k → NZ (tkN H N T) k
  | [], T, _, _, h => h
  | n :: r, T, hi, _, h => by
    unfold tkN
    simp only [List.foldl_cons]
    exact tkN_mono r _ (fun m hm => hi m (by simp [hm])) (own_mono2 (hi n (by simp)) h)
theorem nodeS_eqH (H : ByteArray → Option Sh) (O : Ou) (S : List Ft × Tk) (n : Nd) : nodeS H O S n = (S.1 ++ (ownF (H n.kd) n S.2).1 ++ bondF ((H n.kd).getD sh0).bn n.id O, (ownF (H n.kd) n S.2).2) := rfl
theorem nodes_nil {H : ByteArray → Option Sh} {O : Ou} : ∀ (N : List Nd) (S : List Ft × Tk), (N.foldl (nodeS H O) S).1 = [] → S.1 = [] ∧ ∀ k n, N[k]? = some n → (ownF (H n.kd) n (tkN H (N.take k) S.2)).1 = []
  | [], S, h => ⟨h, fun k n hn => by simp at hn⟩
  | m :: r, S, h => by
    simp only [List.foldl_cons] at h
    obtain ⟨h1, h2⟩ := nodes_nil r _ h
    rw [nodeS_eqH] at h1 h2
    simp only [List.append_eq_nil_iff] at h1
    refine ⟨h1.1.1, fun k n hn => ?_⟩
    cases k with
    | zero =>
      obtain rfl : m = n := by simpa using hn
      exact h1.1.2
    | succ k =>
      have := h2 k n (by simpa using hn)
      simpa [tkN] using this
theorem prop_fold {fs : List Fd} {id : Int} : ∀ (rc : List Pr) (l : List Ft), (rc.foldl (propS fs id) l) = [] → l = [] ∧ ∀ p ∈ rc, fits fs p = true
  | [], l, h => ⟨h, fun p hp => by cases hp⟩
  | p :: r, l, h => by
    simp only [List.foldl_cons] at h
    obtain ⟨h1, h2⟩ := prop_fold r _ h
    unfold propS at h1
    split at h1
    · rename_i hf
      refine ⟨h1, fun q hq => ?_⟩
      rcases List.mem_cons.1 hq with rfl | hq
      · exact hf
      · exact h2 q hq
    · simp at h1
/-- Of a graph that conforms each node is right by itself. -/
theorem node_right {L : List Kd} {B : List Bd} {N : List Nd} {T : List Te} (h : allF L B N T = []) {k : Nat} {n : Nd} (hn : N[k]? = some n) : ∃ s, shO L B L n.kd = some s ∧ (∀ p ∈ n.rc, fits s.fs p = true) ∧ (s.fs.foldl (fieldS n.id n.rc) ([], tkN (shO L B L) (N.take k) (fun _ => none))).1 = [] := by
  unfold allF at h
  have h1 : nodeF (shO L B L) (outO T) N = [] := (List.append_eq_nil_iff.1 h).1
  unfold nodeF at h1
  have h2 := (nodes_nil N _ h1).2 k n hn
  cases hs : shO L B L n.kd with
  | none => rw [hs] at h2; simp [ownF] at h2
  | some s =>
    rw [hs] at h2
    unfold ownF at h2
    simp only [List.append_eq_nil_iff] at h2
    exact ⟨s, rfl, (prop_fold n.rc [] h2.1).2, h2.2⟩
theorem shO_fs {L : List Kd} {B : List Bd} {x : ByteArray} {s : Sh} (h : shO L B L x = some s) : ∃ k ∈ L, x = bs k.nm ∧ s = shp L B k.nm := by
  have key : ∀ (M : List Kd) (F : ByteArray → Option Sh), (M.foldl (fun F k => upd F (bs k.nm) (shp L B k.nm)) F) x = some s → F x = some s ∨ ∃ k ∈ M, x = bs k.nm ∧ s = shp L B k.nm := by
    intro M
    induction M with
    | nil => intro F e; exact .inl e
    | cons k r ih =>
      intro F e
      simp only [List.foldl_cons] at e
      rcases ih _ e with h1 | ⟨k', hk', h2⟩
      · unfold upd at h1
        split at h1
        · rename_i hx
          exact .inr ⟨k, by simp, hx, (Option.some.inj h1).symm⟩
        · exact .inl h1
      · exact .inr ⟨k', by simp [hk'], h2⟩
  rcases key L _ h with h1 | h1
  · cases h1
  · exact h1
/-- A property of a record that is right is found by its name. -/
theorem getP_of {rc : List Pr} (h : rErr rc = 0) {p : Pr} (hp : p ∈ rc) : getP p.nm.toList rc = some p := by
  have hs := ((rErr_srt rc).1 h).1.2
  unfold getP
  rcases idxP_spec p.nm.toList rc 0 with h1 | ⟨j, q, h1, h2, h3⟩
  · exfalso
    have : ∀ (l : List Pr) (k : Nat), idxP p.nm.toList l k = -1 → p ∉ l := by
      intro l
      induction l with
      | nil => intro k _ hm; cases hm
      | cons a r ih =>
        intro k hk hm
        unfold idxP at hk
        split at hk
        · omega
        · rename_i hne
          rcases List.mem_cons.1 hm with rfl | hm
          · exact hne (by simp)
          · exact ih _ hk hm
    exact this rc 0 h1 hp
  · simp only [Nat.zero_add] at h1
    rw [if_neg (by rw [h1]; omega), h1]
    simp only [Int.toNat_natCast]
    rw [h2]
    congr 1
    have e : q.nm.toList = p.nm.toList := by simpa using h3
    obtain ⟨i, hi, rfl⟩ := List.getElem_of_mem hp
    obtain ⟨hj, rfl⟩ := List.getElem?_eq_some_iff.1 h2
    rw [List.pairwise_iff_getElem] at hs
    rcases Nat.lt_trichotomy i j with h4 | h4 | h4
    · have := hs i j hi hj h4
      unfold Pr.lt at this
      rw [e, less_irr] at this
      cases this
    · subst h4; rfl
    · have := hs j i hj hi h4
      unfold Pr.lt at this
      rw [e, less_irr] at this
      cases this
/-- No two nodes have one key. -/
theorem key_uniq {L : List Kd} {B : List Bd} {N : List Nd} {T : List Te} (hk0 : (ksErr L).2 = 0) (hg : gErr N T = 0) (hc : allF L B N T = []) {i j : Nat} {n m : Nd} (hn : N[i]? = some n) (hm : N[j]? = some m) {a : Nm} (ha : a ∈ knO (hpO L L) n.kd) (hb : a ∈ knO (hpO L L) m.kd) {f : Fd} (hf : f ∈ fields L a) (hk : f.key = true) {p q : Pr} (hp : p ∈ n.rc) (hq : q ∈ m.rc) (e1 : p.nm.toList = f.nm) (e2 : q.nm.toList = f.nm) (ev : p.t = q.t ∧ p.n = q.n ∧ p.s = q.s) : ¬ i < j := by
  intro hij
  have hids : ∀ x ∈ N, x.id ≠ 0 := fun x hx => by
    have := (chkN_rc N none (gErr_lens hg).2.2.1 x hx).1
    have := idOk_iff this
    omega
  have hnm := List.mem_of_getElem? hn
  have hmm := List.mem_of_getElem? hm
  have hrn := (chkN_rc N none (gErr_lens hg).2.2.1 n hnm).2.2
  have hrm := (chkN_rc N none (gErr_lens hg).2.2.1 m hmm).2.2
  obtain ⟨s, hs, hs1, hs2⟩ := node_right hc hn
  obtain ⟨s', hs', hs1', hs2'⟩ := node_right hc hm
  obtain ⟨k, hkL, hkx, rfl⟩ := shO_fs hs
  obtain ⟨k', hkL', hkx', rfl⟩ := shO_fs hs'
  have hkn : knO (hpO L L) n.kd = nms (kin L k.nm) := by rw [← kn_eq L B, hs]; rfl
  have hkm : knO (hpO L L) m.kd = nms (kin L k'.nm) := by rw [← kn_eq L B, hs']; rfl
  rw [hkn] at ha
  rw [hkm] at hb
  have en := in_nmErr hk0 hkL
  have em := in_nmErr hk0 hkL'
  have f1 := fields_sub en ha f hf
  have f2 := fields_sub em hb f hf
  have g1 : getP f.nm n.rc = some p := by rw [← e1]; exact getP_of hrn hp
  have g2 : getP f.nm m.rc = some q := by rw [← e2]; exact getP_of hrm hq
  have hkey : keyP n.rc f = keyP m.rc f := by
    unfold keyP
    rw [g1, g2]
    simp only [valP]
    rw [ev.1, ev.2.1, ev.2.2]
  have ht : (valP (getP f.nm m.rc)).1 = f.t := by
    rw [g2]
    have hfit := hs1' q hq
    unfold fits at hfit
    obtain ⟨f', hf', hfi⟩ := List.any_eq_true.1 hfit
    unfold fit1 at hfi
    rw [Bool.and_eq_true] at hfi
    have e3 : f'.nm = q.nm.toList := by simpa using hfi.1
    have e4 : f'.t = q.t := by simpa using hfi.2
    have := fields_uniq em hf' f2 (by rw [e3, e2])
    rw [← this]
    exact e4.symm
  have t1 := takes (hids n hnm) _ _ hs2 f f1 hk
  have t2 : NZ (tkN (shO L B L) (N.take (i + 1)) (fun _ => none)) (keyP n.rc f) := by
    have e : tkN (shO L B L) (N.take (i + 1)) (fun _ => none) = (ownF (shO L B L n.kd) n (tkN (shO L B L) (N.take i) (fun _ => none))).2 := foldl_take _ _ hn
    rw [e, hs]
    exact t1
  have t3 : NZ (tkN (shO L B L) (N.take j) (fun _ => none)) (keyP n.rc f) := by
    have e : N.take j = N.take (i + 1) ++ (N.take j).drop (i + 1) := by
      have h := (List.take_append_drop (i + 1) (N.take j)).symm
      rwa [List.take_take, Nat.min_eq_left (by omega)] at h
    rw [e]
    unfold tkN
    rw [List.foldl_append]
    exact tkN_mono _ _ (fun x hx => hids x (List.mem_of_mem_take (List.mem_of_mem_drop hx))) t2
  rw [hkey] at t3
  exact not_taken (hids m hmm) _ _ hs2' f f2 hk ht t3
end Go.Proofs.YtjnjbajnmclmjaaGreatDoor

/-
  The walks of find and of what it calls, and of kinref2.In.
-/
namespace Go.Proofs.YtjnjbajnmclmjaaGreatDoor
open Go.RowKit
set_option linter.unusedVariables false
set_option linter.unusedSimpArgs false

/-- Where the node of an id stands. -/
def idxN (id : Int) : List Nd → Nat → Int
  | [], _ => -1
  | n :: r, k => if n.id = id then (k : Int) else idxN id r (k + 1)
/-- Is there such a node? -/
def hasId (N : List Nd) (id : Int) : Bool := N.any fun n => n.id == id
theorem idxN_neg (id : Int) : ∀ (N : List Nd) (k : Nat), (idxN id N k < 0) ↔ hasId N id = false
  | [], k => by simp [idxN, hasId]
  | n :: r, k => by
    have ih := idxN_neg id r (k + 1)
    unfold idxN
    by_cases h : n.id = id
    · rw [if_pos h]; simp [hasId, h]
    · rw [if_neg h, ih]; simp [hasId, h]
/-- The fault of finding a node. -/
def fE (N : List Nd) (T : List Te) (id : Int) : Int := if gErr N T = 0 then (if hasId N id = true then 0 else 5) else gErr N T

set_option maxHeartbeats 1000000 in
theorem find1_any (n : Nd) (p : Nat) (id : Int) (w : World) (hp : p < w.heap.size) (hc : w.cell? ⟨p, 0, none⟩ = some (.int .i64 id)) (hv : ∃ a l c, n.rv = .slice a l c) :
    Calls Tryz.prog 53 #[n.one, .pointer (some ⟨p, 0, none⟩)] w fun e w' => e = .returned (.bool (n.id == id)) ∧ Below w.heap.size w w' := by
  obtain ⟨ni, kd, rv, rc⟩ := n
  obtain ⟨a, l, c, h⟩ := hv
  simp only at h ⊢
  subst h
  have hB : Below w.heap.size w (w.alloc (.cells #[.int .i64 ni, .string kd, .slice a l c] 44)) := b_alloc (Below.refl _ _) _
  have hc' := (hB.cell (p := ⟨p, 0, none⟩) hp).trans hc
  have hpn : ¬ p = w.heap.size := by omega
  go_enter Tryz.func53, Tryz.ntmps53
  go_wp2
  go_ret
  exact ⟨rfl, hB⟩

set_option maxHeartbeats 1000000 in
set_option maxRecDepth 100000 in
theorem index_any {ao : Option Addr} {cn : Nat} {N : List Nd} {w : World} (hn : N = [] ∨ ∃ b off, ao = some ⟨b, off, none⟩ ∧ b < w.heap.size ∧ LiesN w b off N) (h60 : N.length ≤ 60) (p : Nat) (id : Int) (hp : p < w.heap.size) (hc : w.cell? ⟨p, 0, none⟩ = some (.int .i64 id)) :
    Calls Tryz.prog 52 #[.slice ao N.length cn, .func (.func 53) #[] #[.pointer (some ⟨p, 0, none⟩)]] w fun e w' => e = .returned (.int .i64 (idxN id N 0)) ∧ Below w.heap.size w w' := by
  go_enter Tryz.func52, Tryz.ntmps52
  go_wp2
  go_loopw [8] (fun i wr => ∃ k : Nat, k ≤ N.length ∧ i = .int .i64 k ∧ idxN id N 0 = idxN id (N.drop k) k ∧ Below w.heap.size w wr) (fun i _ => N.length - (intOf i).toNat)
  case atStart => exact ⟨0, Nat.zero_le _, rfl, rfl, Below.refl _ _⟩
  case round =>
    obtain ⟨k, hk, rfl, hx, hB⟩ := hrel
    have HX : Hid (idxN id N 0 = idxN id (N.drop k) k) := hx
    clear hx
    by_cases hlt : k < N.length
    · obtain ⟨n, hn'⟩ : ∃ n, N[k]? = some n := ⟨N[k], by simp [hlt]⟩
      rcases hn with rfl | ⟨b, off, rfl, hb, hL⟩
      · exact absurd hlt (by simp)
      have HD : Hid (N.drop k = n :: N.drop (k + 1)) := dropN hn'
      obtain ⟨c0, c1, c2, cR⟩ := hL k n hn'
      have d0 := (hB.cell (p := ⟨b, off + k * 3, none⟩) hb).trans c0
      have d1 := (hB.cell (p := ⟨b, off + k * 3 + 1, none⟩) hb).trans c1
      have d2 := (hB.cell (p := ⟨b, off + k * 3 + 2, none⟩) hb).trans c2
      obtain ⟨av, cv, hv, _⟩ := cR
      have cf := find1_any n p id wr (Nat.lt_of_lt_of_le hp hB.size) ((hB.cell hp).trans hc) ⟨av, n.rc.length, cv, hv⟩
      have HL : Hid (LiesN w b off N) := hL
      clear c0 c1 c2 hn' hL hc
      obtain ⟨ni, kd, rv, rc⟩ := n
      simp only at hv d0 d1 d2 cf HD
      subst hv
      by_cases he : ni = id
      · have H : Hid (idxN id N 0 = (k : Int)) := by
          show _ = _
          rw [HX.out, HD.out]; unfold idxN; rw [if_pos he]
        have hb' : (ni == id) = true := by simpa using he
        rw [hb'] at cf
        clear HX HD he hb'
        go_wp2_with (first | (go_at_call 53; refine cf.mono ?_; rintro e W2 ⟨rfl, hB2⟩))
        go_ret
        exact ⟨ret_v (congrArg (Value.int .i64) H.out.symm), on1 hB hB2⟩
      · have H : Hid (idxN id N 0 = idxN id (N.drop (k + 1)) (k + 1)) := by
          show _ = _
          rw [HX.out, HD.out]; conv => lhs; unfold idxN; rw [if_neg he]
        have hb' : (ni == id) = false := by simpa using he
        rw [hb'] at cf
        clear HX HD he hb'
        go_wp2_with (first | (go_at_call 53; refine cf.mono ?_; rintro e W2 ⟨rfl, hB2⟩))
        go_roundw
        case rel => exact ⟨k + 1, by omega, by go_num, H.out, on1 hB hB2⟩
        case measure => simp [intOf]; omega
    · have hd : N.drop k = [] := List.drop_eq_nil_of_le (by omega)
      have H : Hid (idxN id N 0 = -1) := by
        show _ = _
        rw [HX.out, hd]; rfl
      clear HX hd
      go_wp2
      go_ret
      exact ⟨ret_v (congrArg (Value.int .i64) H.out.symm), hB⟩

theorem fE_bad {N : List Nd} {T : List Te} (id : Int) (h : ¬ gErr N T = 0) : fE N T id = gErr N T := by unfold fE; rw [if_neg h]
theorem fE_ok {N : List Nd} {T : List Te} {id : Int} (h : gErr N T = 0) (h2 : hasId N id = true) : fE N T id = 0 := by unfold fE; rw [if_pos h, if_pos h2]
theorem fE_no {N : List Nd} {T : List Te} {id : Int} (h : gErr N T = 0) (h2 : hasId N id = false) : fE N T id = 5 := by unfold fE; rw [if_pos h, h2]; rfl
theorem gErr_len {N : List Nd} {T : List Te} (h : gErr N T = 0) : N.length ≤ 60 ∧ T.length ≤ 120 := by
  unfold gErr at h
  split at h
  · cases h
  · omega

set_option maxHeartbeats 1000000 in
set_option maxRecDepth 100000 in
theorem find_any {vn vt : Value} {N : List Nd} {T : List Te} {w : World} (hN : IsN w vn N) (hT : IsT w vt T) (zN : SzN N) (zT : SzT T) (lN : N.length ≤ maxLen) (lT : T.length ≤ maxLen) (id : Int) :
    Calls Tryz.prog 33 #[.agg #[vn, vt], .int .i64 id] w fun e w' => ∃ x, e = .returned (.tuple #[.int .i64 x, errV (fE N T id)]) ∧ Below w.heap.size w w' := by
  have hN' := hN
  obtain ⟨an, cn, rfl, hcn, hn⟩ := hN
  have hT' := hT
  obtain ⟨am, cm, rfl, hcm, hm⟩ := hT
  have hB : Below w.heap.size w ((w.alloc (.cells #[.slice an N.length cn, .slice am T.length cm] 29)).alloc (.cells #[.int .i64 id] 3)) := b_alloc (b_alloc (Below.refl _ _) _) _
  have cc := gcheck_any (hN'.on hB) (hT'.on hB) zN zT lN lT
  by_cases hg : gErr N T = 0
  · rw [hg, errV_0] at cc
    have g0 : ((w.alloc (.cells #[.slice an N.length cn, .slice am T.length cm] 29)).alloc (.cells #[.int .i64 id] 3)).cell? ⟨w.heap.size, 0, none⟩ = some (.slice an N.length cn) := by simp
    have g2 : ((w.alloc (.cells #[.slice an N.length cn, .slice am T.length cm] 29)).alloc (.cells #[.int .i64 id] 3)).cell? ⟨w.heap.size + 1, 0, none⟩ = some (.int .i64 id) := by simp
    have ci := fun W (hW : Below ((w.alloc (.cells #[.slice an N.length cn, .slice am T.length cm] 29)).alloc (.cells #[.int .i64 id] 3)).heap.size ((w.alloc (.cells #[.slice an N.length cn, .slice am T.length cm] 29)).alloc (.cells #[.int .i64 id] 3)) W) => index_any (ao := an) (cn := cn) (N := N) (w := W) (by
      rcases hn with h | ⟨b, off, h1, h2, h3⟩
      · exact .inl h
      · exact .inr ⟨b, off, h1, Nat.lt_of_lt_of_le h2 (on1 hB hW).size, h3.on h2 (on1 hB hW)⟩) (gErr_len hg).1 (w.heap.size + 1) id (by have := hW.size; simp at this; omega) ((hW.cell (by simp)).trans g2)
    have HG : Hid (∀ W, Below ((w.alloc (.cells #[.slice an N.length cn, .slice am T.length cm] 29)).alloc (.cells #[.int .i64 id] 3)).heap.size ((w.alloc (.cells #[.slice an N.length cn, .slice am T.length cm] 29)).alloc (.cells #[.int .i64 id] 3)) W → W.cell? ⟨w.heap.size, 0, none⟩ = some (.slice an N.length cn)) := fun W hW => (hW.cell (by simp; omega)).trans g0
    obtain ⟨r, hr⟩ : ∃ r, idxN id N 0 = r := ⟨_, rfl⟩
    rw [hr] at ci
    by_cases h0 : r < 0
    · have H : Hid (errV (fE N T id) = .iface 92 (.int .i64 5)) := by
        show _ = _
        rw [fE_no hg ((idxN_neg id N 0).1 (by omega))]; rfl
      clear g0 g2 hg hr hn hm
      go_enter Tryz.func33, Tryz.ntmps33
      go_wp2_with (first | (go_at_call 31; refine cc.mono ?_; rintro e W2 ⟨rfl, hB2⟩; have k0 := HG.out W2 hB2) | (go_at_call 52; refine (ci _ hB2).mono ?_; rintro e W3 ⟨rfl, hB3⟩))
      go_ret2
      exact ⟨0, by rw [H.out]; rfl, on1 (on1 hB hB2) hB3⟩
    · have H : Hid (errV (fE N T id) = .nilIface) := by
        show _ = _
        rw [fE_ok hg (by
          cases hh : hasId N id
          · exact absurd ((idxN_neg id N 0).2 hh) (by omega)
          · rfl)]; rfl
      clear g0 g2 hg hr hn hm
      go_enter Tryz.func33, Tryz.ntmps33
      go_wp2_with (first | (go_at_call 31; refine cc.mono ?_; rintro e W2 ⟨rfl, hB2⟩; have k0 := HG.out W2 hB2) | (go_at_call 52; refine (ci _ hB2).mono ?_; rintro e W3 ⟨rfl, hB3⟩))
      go_ret2
      exact ⟨r, by rw [H.out]; rfl, on1 (on1 hB hB2) hB3⟩
  · have H : Hid (errV (fE N T id) = .iface 92 (.int .i64 (gErr N T))) := by
      show _ = _
      rw [fE_bad id hg, errV_ne hg]
    rw [errV_ne hg] at cc
    clear hg hn hm
    go_enter Tryz.func33, Tryz.ntmps33
    go_wp2_with (first | (go_at_call 31; refine cc.mono ?_; rintro e W2 ⟨rfl, hB2⟩))
    go_ret2
    exact ⟨0, by rw [H.out]; rfl, on1 hB hB2⟩
end Go.Proofs.YtjnjbajnmclmjaaGreatDoor
